import Derived.Test.YtidioioldlmciaaDoorE
import Derived.Deep.AppendLies
namespace Go.Proofs.YtidioioldlmciaaDoor
open Go.RowKit

def lastPart (l : List UInt8) : List UInt8 := (splitS l).getLastD []
def parentB (l : List UInt8) : List UInt8 := l.take (l.length - (lastPart l).length - 1)
def aheadAt (es : List En) : Nat → Bool
  | 0 => true
  | j + 1 => match es[j]?, es[j + 1]? with
    | some d, some e => aheadB (splitS d.path.data.toList) (splitS e.path.data.toList)
    | _, _ => true
def parentAt (es : List En) (e : En) : Bool := decide ((splitS e.path.data.toList).length ≤ 1) || dirB es (parentB e.path.data.toList)
def treeAt (es : List En) (i : Nat) : Bool := match es[i]? with
  | none => true
  | some e => entryOk e && aheadAt es i && parentAt es e
def isTreeB (es : List En) : Bool := (List.range es.length).all (treeAt es)

theorem splitS_size : ∀ (l : List UInt8), 1 < (splitS l).length → (lastPart l).length + 1 ≤ l.length
  | [], h => by simp [splitS] at h
  | c :: r, h => by
    obtain ⟨hd, tl, e⟩ := splitS_cons r
    by_cases hc : c = 47
    · have e1 : splitS (c :: r) = [] :: splitS r := by simp [splitS, hc]
      have e2 : lastPart (c :: r) = lastPart r := by unfold lastPart; rw [e1, e]; simp
      rw [e2]
      have h1 := splitS_part r
      simp; exact h1
    · have e1 : splitS (c :: r) = (c :: hd) :: tl := by simp [splitS, hc, e]
      rw [e1] at h
      have hl : 1 < (splitS r).length := by rw [e]; simpa using h
      have ih := splitS_size r hl
      have e2 : lastPart (c :: r) = lastPart r := by
        unfold lastPart; rw [e1, e]
        cases tl with
        | nil => simp at h
        | cons t ts => simp
      rw [e2]
      simp; omega
  where splitS_part : ∀ (l : List UInt8), (lastPart l).length ≤ l.length
  | [] => by simp [lastPart, splitS]
  | c :: r => by
    obtain ⟨hd, tl, e⟩ := splitS_cons r
    have ih := splitS_part r
    by_cases hc : c = 47
    · have e1 : splitS (c :: r) = [] :: splitS r := by simp [splitS, hc]
      have e2 : lastPart (c :: r) = lastPart r := by unfold lastPart; rw [e1, e]; simp
      rw [e2]; simp; omega
    · have e1 : splitS (c :: r) = (c :: hd) :: tl := by simp [splitS, hc, e]
      unfold lastPart at ih ⊢
      rw [e1]; rw [e] at ih
      cases tl with
      | nil => simp at ih ⊢; exact ih
      | cons t ts => simp at ih ⊢; omega

theorem splitS_len : ∀ (l : List UInt8), (splitS l).length ≤ l.length + 1
  | [] => by simp [splitS]
  | c :: r => by
    obtain ⟨hd, tl, e⟩ := splitS_cons r
    have ih := splitS_len r
    by_cases hc : c = 47
    · have e1 : splitS (c :: r) = [] :: splitS r := by simp [splitS, hc]
      rw [e1]; simp; omega
    · have e1 : splitS (c :: r) = (c :: hd) :: tl := by simp [splitS, hc, e]
      rw [e1]; rw [e] at ih; simp at ih ⊢; omega
theorem splitS_pos (l : List UInt8) : 0 < (splitS l).length := by
  obtain ⟨h, t, e⟩ := splitS_cons l
  rw [e]; simp
theorem last_at (l : List UInt8) (h : 0 < (splitS l).length) : ((splitS l).map mkS)[(splitS l).length - 1]? = some (.string ⟨(lastPart l).toArray⟩) := by
  rw [List.getElem?_map, List.getElem?_eq_getElem (by omega)]
  unfold lastPart
  rw [← List.getLast_eq_getElem (List.ne_nil_of_length_pos h)]
  simp [mkS, List.getLastD_eq_getLast?, List.getLast?_eq_some_getLast (List.ne_nil_of_length_pos h)]
theorem isTree_false (es : List En) (k : Nat) (hk : k < es.length) (h : treeAt es k = false) : isTreeB es = false := by
  unfold isTreeB
  rw [List.all_eq_false]; exact ⟨k, List.mem_range.2 hk, by simp [h]⟩
theorem isTree_true (es : List En) (h : ∀ k, k < es.length → treeAt es k = true) : isTreeB es = true := by
  unfold isTreeB
  rw [List.all_eq_true]; exact fun k hk => h k (List.mem_range.1 hk)
theorem treeAt_is (zs : List (En × Value)) (k : Nat) (hk : k < zs.length) : treeAt (zs.map (·.1)) k = (entryOk zs[k].1 && aheadAt (zs.map (·.1)) k && parentAt (zs.map (·.1)) zs[k].1) := by
  unfold treeAt
  simp [hk]
theorem treeAt_bad (zs : List (En × Value)) (k : Nat) (hk : k < zs.length) (h : entryOk zs[k].1 = false) : treeAt (zs.map (·.1)) k = false := by
  rw [treeAt_is zs k hk, h]; simp
theorem aheadAt_succ (zs : List (En × Value)) (j : Nat) (hk : j + 1 < zs.length) : aheadAt (zs.map (·.1)) (j + 1) = aheadB (splitS zs[j].1.path.data.toList) (splitS zs[j + 1].1.path.data.toList) := by
  have h1 : (zs.map (·.1))[j]? = some zs[j].1 := by simp [show j < zs.length by omega]
  have h2 : (zs.map (·.1))[j + 1]? = some zs[j + 1].1 := by simp [hk]
  simp only [aheadAt, h1, h2]
theorem treeAt_entry (zs : List (En × Value)) (k : Nat) (hk : k < zs.length) (h : treeAt (zs.map (·.1)) k = true) : entryOk zs[k].1 = true := by
  rw [treeAt_is zs k hk] at h
  simp at h
  exact h.1.1
theorem parent_cut (p : ByteArray) (n : Nat) (h : p.size = p.data.toList.length) : (p.extract 0 (p.size - n - 1)).toList = p.data.toList.take (p.data.toList.length - n - 1) := by
  rw [extract_list, ← h]; simp [cutL]
theorem entryOk_path {e : En} (h : entryOk e = true) : okPath e.path.data.toList = true := by
  unfold entryOk at h
  simp at h
  exact h.1.1.1.1

set_option maxRecDepth 100000 in
set_option maxHeartbeats 8000000 in
theorem IsTree_any (zs : List (En × Value)) (v : Value) (w : World) (ha : EntsAt w v zs) (hla : zs.length ≤ 2000000)
    (hb : ∀ z ∈ zs, z.1.path.size ≤ 2000000 ∧ z.1.notes.length ≤ 2000000 ∧ z.1.content.size ≤ 2000000) :
    Calls Tryd.prog 19 #[v] w fun e w' => e = .returned (.bool (isTreeB (zs.map (·.1)))) ∧ Kept NoB w w' := by
  obtain ⟨ao, cap, rfl, hc⟩ := CellsAt.shape ha.1
  have HA := hide ha
  clear ha
  have HB := hide hb
  clear hb
  go_enter Tryd.func19, Tryd.ntmps19
  go_wp2
  go_loopw [3] (fun i wr => ∃ k : Nat, k ≤ zs.length ∧ i = .int .i64 k ∧ (∀ j, j < k → Hid (treeAt (zs.map (·.1)) j = true)) ∧ Kept NoB w wr) (fun i _ => zs.length - (intOf i).toNat)
  case atStart => exact ⟨0, by omega, rfl, fun j hj => absurd hj (Nat.not_lt_zero _), Kept.refl _ _⟩
  case round =>
    obtain ⟨k, hka, rfl, heq, hkept⟩ := hrel
    by_cases h1 : k < zs.length
    · obtain ⟨b, o, rfl, hcell⟩ := ents_at (HA.out.keptN hkept) k h1
      have c0 := hcell 0 (by decide)
      have c1 := hcell 1 (by decide)
      have c2 := hcell 2 (by decide)
      have c3 := hcell 3 (by decide)
      have c4 := hcell 4 (by decide)
      have c5 := hcell 5 (by decide)
      simp [enCells] at c0 c1 c2 c3 c4 c5
      clear hcell
      have hbk := HB.out zs[k] (List.getElem_mem h1)
      go_wp2_with fail
      refine (entry_any zs[k].1 zs[k].2 _ ((HA.out.keptN hkept).2 _ (List.getElem_mem h1)) hbk.1 (by omega) (by omega)).mono ?_
      rintro r w1 ⟨rfl, hk1⟩
      cases hE : entryOk zs[k].1 with
      | false =>
        have HR := hide (isTree_false _ k (by simpa using h1) (treeAt_bad zs k h1 hE))
        have HK := hide (hkept.trans hk1)
        clear hk1 hkept hE
        go_wp2_with fail
        go_ret
        exact ⟨by rw [HR.out]; rfl, HK.out⟩
      | true =>
        have d0 := hk1.cellN c0
        have hkept1 := hkept.trans hk1
        clear hk1 hkept c0 c1 c2 c3 c4 c5
        have HP := hide (entryOk_path hE)
        have HE := hide hE
        clear hE
        go_wp2_with fail
        refine (Parts_any zs[k].1.path _ hbk.1).mono ?_
        rintro r w2 ⟨pv, rfl, hk2, hown⟩
        have hown := hown HP.out
        rw [HP.out]
        obtain ⟨g, capp, rfl, _, _⟩ := hown.form (splitS_pos _)
        have e0 := hk2.cellN d0
        have hkept2 := hkept1.trans hk2
        by_cases h0 : k = 0
        · have hk0 : decide (0 < k) = false := by simp; omega
          have H0 := hide h0
          clear h0
          have HAH : Hid (aheadAt (zs.map (·.1)) k = true) := by rw [H0.out]; rfl
          -- the parent
          by_cases hn1 : 1 < (splitS zs[k].1.path.data.toList).length
          · have hsz := splitS_size _ hn1
            have hpl : zs[k].1.path.size = zs[k].1.path.data.toList.length := by rw [Array.length_toList]; rfl
            have hlast : w2.cell? ⟨g, (splitS zs[k].1.path.data.toList).length - 1, none⟩ = some (.string ⟨(lastPart zs[k].1.path.data.toList).toArray⟩) := by
              have h := hown.cellAt ((splitS zs[k].1.path.data.toList).length - 1) (by omega)
              rw [h]
              exact last_at _ (by omega)
            have hnl := splitS_len zs[k].1.path.data.toList
            have HPC := hide (parent_cut zs[k].1.path (lastPart zs[k].1.path.data.toList).length hpl)
            rw [← hpl] at hnl hsz
            cases hD : dirB (zs.map (·.1)) (zs[k].1.path.extract 0 (zs[k].1.path.size - (lastPart zs[k].1.path.data.toList).length - 1)).toList with
            | false =>
              have HR := hide (isTree_false (zs.map (·.1)) k (by simpa using h1) (by rw [treeAt_is zs k h1, show parentAt (zs.map (·.1)) zs[k].1 = false by unfold parentAt parentB; rw [← HPC.out, hD, decide_eq_false (by omega)]; rfl, Bool.and_false]))
              clear hpl HPC
              go_wp2_with fail
              go_quiet ((go_at_call 32; exact Calls.quiet_of_same (dir_any zs _ _ _ (HA.out.keptN (hkept2.drewN _)) (by omega))))
              go_wp2_with fail
              go_ret
              exact ⟨by rw [HR.out]; rfl, hkept2.drewN _⟩
            | true =>
              have HN := hide (show treeAt (zs.map (·.1)) k = true by rw [treeAt_is zs k h1, HE.out, HAH.out, show parentAt (zs.map (·.1)) zs[k].1 = true by unfold parentAt parentB; rw [← HPC.out, hD, Bool.or_true]]; rfl)
              clear hpl HPC
              go_wp2_with fail
              go_quiet ((go_at_call 32; exact Calls.quiet_of_same (dir_any zs _ _ _ (HA.out.keptN (hkept2.drewN _)) (by omega))))
              go_wp2_with fail
              go_roundw
              case rel => exact ⟨k + 1, by omega, by go_num, upTo heq HN, hkept2.drewN nq⟩
              case measure => simp [intOf]; omega
          · have HN := hide (show treeAt (zs.map (·.1)) k = true by rw [treeAt_is zs k h1, HE.out, HAH.out, show parentAt (zs.map (·.1)) zs[k].1 = true by unfold parentAt; rw [decide_eq_true (by omega), Bool.true_or]]; rfl)
            go_wp2_with fail
            go_roundw
            case rel => exact ⟨k + 1, by omega, by go_num, upTo heq HN, hkept2⟩
            case measure => simp [intOf]; omega
        · obtain ⟨j, rfl⟩ : ∃ j, k = j + 1 := ⟨k - 1, by omega⟩
          have hj : j < zs.length := by omega
          obtain ⟨b', o', e', hcell'⟩ := ents_at (HA.out.keptN hkept2) j hj
          cases e'
          have f0 := hcell' 0 (by decide)
          simp [enCells] at f0
          clear hcell'
          have hbj := HB.out zs[j] (List.getElem_mem hj)
          have HPJ := hide (entryOk_path (treeAt_entry zs j hj (heq j (by omega)).out))
          go_wp2_with fail
          refine (Parts_any zs[j].1.path _ hbj.1).mono ?_
          rintro r w3 ⟨qv, rfl, hk3, hownq⟩
          have hownq := hownq HPJ.out
          rw [HPJ.out]
          have hown3 := hk3.owns hown (fun _ _ x => x)
          have e3 := hk3.cellN e0
          have hkept3 := hkept2.trans hk3
          clear hk3 f0 e0
          have hnlj := splitS_len zs[j].1.path.data.toList
          have hnlk := splitS_len zs[j + 1].1.path.data.toList
          have hplj : zs[j].1.path.size = zs[j].1.path.data.toList.length := by rw [Array.length_toList]; rfl
          have hplk : zs[j + 1].1.path.size = zs[j + 1].1.path.data.toList.length := by rw [Array.length_toList]; rfl
          rw [← hplj] at hnlj
          rw [← hplk] at hnlk
          clear hplj hplk
          have HCQ := hide (CellsAt.ofOwns hownq)
          have HCP := hide (CellsAt.ofOwns hown3)
          obtain ⟨qo, qc, rfl, _⟩ := HCQ.out.shape
          go_wp2_with fail
          refine (ahead_any (splitS zs[j].1.path.data.toList) (splitS zs[j + 1].1.path.data.toList) _ _ _ (by simpa using HCQ.out) (by simpa using HCP.out) (by omega) (by omega)).mono ?_
          rintro r w4 ⟨rfl, hk4⟩
          have hown4 := hk4.owns hown3 (fun _ _ x => x)
          have e4 := hk4.cellN e3
          have hkept4 := hkept3.trans hk4
          clear hk4 e3 hown3 hown hownq
          cases hAH : aheadB (splitS zs[j].1.path.data.toList) (splitS zs[j + 1].1.path.data.toList) with
          | false =>
            have HR := hide (isTree_false (zs.map (·.1)) (j + 1) (by simpa using h1) (by rw [treeAt_is zs (j + 1) h1, aheadAt_succ zs j h1, hAH, Bool.and_false, Bool.false_and]))
            clear hAH
            go_wp2_with fail
            go_ret
            exact ⟨by rw [HR.out]; rfl, hkept4⟩
          | true =>
            have HAH : Hid (aheadAt (zs.map (·.1)) (j + 1) = true) := by unfold Hid; rw [aheadAt_succ zs j h1, hAH]
            clear hAH
            -- the parent
            by_cases hn1 : 1 < (splitS zs[j + 1].1.path.data.toList).length
            · have hsz := splitS_size _ hn1
              have hpl : zs[j + 1].1.path.size = zs[j + 1].1.path.data.toList.length := by rw [Array.length_toList]; rfl
              have hlast : w4.cell? ⟨g, (splitS zs[j + 1].1.path.data.toList).length - 1, none⟩ = some (.string ⟨(lastPart zs[j + 1].1.path.data.toList).toArray⟩) := by
                have h := hown4.cellAt ((splitS zs[j + 1].1.path.data.toList).length - 1) (by omega)
                rw [h]
                exact last_at _ (by omega)
              have hnl := splitS_len zs[j + 1].1.path.data.toList
              have HPC := hide (parent_cut zs[j + 1].1.path (lastPart zs[j + 1].1.path.data.toList).length hpl)
              rw [← hpl] at hnl hsz
              cases hD : dirB (zs.map (·.1)) (zs[j + 1].1.path.extract 0 (zs[j + 1].1.path.size - (lastPart zs[j + 1].1.path.data.toList).length - 1)).toList with
              | false =>
                have HR := hide (isTree_false (zs.map (·.1)) (j + 1) (by simpa using h1) (by rw [treeAt_is zs (j + 1) h1, show parentAt (zs.map (·.1)) zs[j + 1].1 = false by unfold parentAt parentB; rw [← HPC.out, hD, decide_eq_false (by omega)]; rfl, Bool.and_false]))
                clear hpl HPC
                go_wp2_with fail
                go_quiet ((go_at_call 32; exact Calls.quiet_of_same (dir_any zs _ _ _ (HA.out.keptN (hkept4.drewN _)) (by omega))))
                go_wp2_with fail
                go_ret
                exact ⟨by rw [HR.out]; rfl, hkept4.drewN _⟩
              | true =>
                have HN := hide (show treeAt (zs.map (·.1)) (j + 1) = true by rw [treeAt_is zs (j + 1) h1, HE.out, HAH.out, show parentAt (zs.map (·.1)) zs[j + 1].1 = true by unfold parentAt parentB; rw [← HPC.out, hD, Bool.or_true]]; rfl)
                clear hpl HPC
                go_wp2_with fail
                go_quiet ((go_at_call 32; exact Calls.quiet_of_same (dir_any zs _ _ _ (HA.out.keptN (hkept4.drewN _)) (by omega))))
                go_wp2_with fail
                go_roundw
                case rel => exact ⟨j + 1 + 1, by omega, by go_num, upTo heq HN, hkept4.drewN nq⟩
                case measure => simp [intOf]; omega
            · have HN := hide (show treeAt (zs.map (·.1)) (j + 1) = true by rw [treeAt_is zs (j + 1) h1, HE.out, HAH.out, show parentAt (zs.map (·.1)) zs[j + 1].1 = true by unfold parentAt; rw [decide_eq_true (by omega), Bool.true_or]]; rfl)
              go_wp2_with fail
              go_roundw
              case rel => exact ⟨j + 1 + 1, by omega, by go_num, upTo heq HN, hkept4⟩
              case measure => simp [intOf]; omega
    · have HR := hide (isTree_true (zs.map (·.1)) (fun i hi => (heq i (by simp at hi; omega)).out))
      go_wp2
      go_ret
      exact ⟨by rw [HR.out]; rfl, hkept⟩
end Go.Proofs.YtidioioldlmciaaDoor
