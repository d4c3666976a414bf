import Derived.Test.YtidioioldlmciaaDoorU
namespace Go.Proofs.YtidioioldlmciaaDoor
open Go.RowKit

theorem splitS_last (b : List UInt8) (hb : ∀ c ∈ b, c ≠ 47) : ∀ a, splitS (a ++ 47 :: b) = splitS a ++ [b]
  | [] => by simp [splitS, splitS_end b hb]
  | c :: a => by
    have ih := splitS_last b hb a
    by_cases hc : c = 47
    · simp [splitS, hc, ih]
    · obtain ⟨h, t, e⟩ := splitS_cons a
      rw [List.cons_append, splitS, if_neg hc, ih, splitS, if_neg hc, e]
      rfl
theorem slash_cases (p : ByteArray) : (Lib.lastIndexByte p 47 = -1 ∧ (splitS p.data.toList).length ≤ 1) ∨
    (∃ i : Nat, Lib.lastIndexByte p 47 = i ∧ i < p.size ∧ ¬ (splitS p.data.toList).length ≤ 1 ∧ parentB p.data.toList = p.data.toList.take i) := by
  have hsz := Lib.size_eq p
  have hat : ∀ j (hj : j < p.data.toList.length), ((p.data[j]!).toNat : Int) = (p.data.toList[j].toNat : Int) := by
    intro j hj
    rw [getElem!_pos p.data j (by simpa using hj)]
    simp
  rcases Lib.lastIndexByte_spec p 47 with ⟨h1, h2⟩ | ⟨i, hi, h1, h2, h3⟩
  · left
    refine ⟨h1, ?_⟩
    rw [splitS_end]
    · simp
    · intro c hc e
      obtain ⟨j, hj, he⟩ := List.getElem_of_mem hc
      have := h2 j (by omega)
      rw [hat j hj, he, e] at this
      exact this rfl
  · right
    have hi' : i < p.data.toList.length := by omega
    refine ⟨i, h1, hi, ?_⟩
    have h4 : p.data.toList[i] = 47 := by
      rw [hat i hi'] at h2
      apply UInt8.toNat_inj.1
      have : (47 : UInt8).toNat = 47 := rfl
      omega
    have hl : p.data.toList = p.data.toList.take i ++ 47 :: p.data.toList.drop (i + 1) := by
      have := List.take_append_drop i p.data.toList
      rw [List.drop_eq_getElem_cons hi', h4] at this
      exact this.symm
    have hb : ∀ c ∈ p.data.toList.drop (i + 1), c ≠ 47 := by
      intro c hc e
      obtain ⟨j, hj, he⟩ := List.getElem_of_mem hc
      rw [List.getElem_drop] at he
      simp only [List.length_drop] at hj
      have := h3 (i + 1 + j) (by omega) (by omega)
      rw [hat (i + 1 + j) (by omega), he, e] at this
      exact this rfl
    have hs := splitS_last _ hb (p.data.toList.take i)
    rw [← hl] at hs
    have hlp : lastPart p.data.toList = p.data.toList.drop (i + 1) := by
      unfold lastPart
      rw [hs, List.getLastD_eq_getLast?, List.getLast?_append]
      simp
    refine ⟨?_, ?_⟩
    · rw [hs]
      have := splitS_pos (p.data.toList.take i)
      rw [List.length_append, List.length_singleton]
      omega
    · unfold parentB
      rw [hlp, List.length_drop]
      congr 1
      omega

def hasPar (d : En) (l : List UInt8) : Bool := decide ((splitS l).length ≤ 1) || ((d.path.data.toList == parentB l && d.kind == 1) || (parentB l ++ [47]).isPrefixOf d.path.data.toList)

set_option maxRecDepth 100000 in
set_option maxHeartbeats 4000000 in
theorem isBelow_any (p q : ByteArray) (w : World) (hq : q.size ≤ 50000000) : Calls Tryd.prog 57 #[.string p, .string q] w fun r w' => r = .returned (.bool (Lib.hasPrefix p.data.toList (q ++ ⟨#[47]⟩).data.toList)) ∧ w' = w := by
  obtain ⟨n, hn⟩ : ∃ n, q.size = n := ⟨_, rfl⟩
  rw [hn] at hq
  have HP := hide (Tryd.strings_HasPrefix p (q ++ ⟨#[47]⟩) w)
  obtain ⟨b, hb⟩ : ∃ b, Lib.hasPrefix p.data.toList (q ++ ⟨#[47]⟩).data.toList = b := ⟨_, rfl⟩
  rw [hb] at HP
  rw [hb]
  clear hb
  go_enter Tryd.func57, Tryd.ntmps57
  go_wp2_with fail
  refine HP.out.mono ?_
  rintro r w1 ⟨rfl, rfl⟩
  go_wp2_with fail
  go_ret
  exact ⟨rfl, rfl⟩

set_option maxRecDepth 100000 in
set_option maxHeartbeats 4000000 in
theorem hasParent_any (d : En) (v : Value) (p : ByteArray) (w : World) (hp : p.size ≤ 50000000) (_hd : d.path.size ≤ 50000000) :
    Calls Tryd.prog 49 #[enVal d v, .string p] w fun r w' => r = .returned (.bool (hasPar d p.data.toList)) ∧ Kept NoB w w' := by
  unfold enVal
  have hli := fun wx => Tryd.strings_LastIndex_one p ⟨#[47]⟩ rfl (by omega) wx
  rw [show (((⟨#[47]⟩ : ByteArray)[0]'(by decide)).toNat : Int) = 47 from rfl] at hli
  rcases slash_cases p with ⟨h1, h2⟩ | ⟨i, h1, hi, h2, h3⟩
  · rw [h1] at hli
    have HL := hide hli
    have HR : Hid (hasPar d p.data.toList = true) := by unfold Hid hasPar; simp [h2]
    clear hli h1 h2
    go_enter Tryd.func49, Tryd.ntmps49
    go_wp2_with fail
    refine (HL.out _).mono ?_
    rintro r w1 ⟨rfl, hw1⟩
    subst hw1
    go_wp2_with fail
    go_ret
    exact ⟨by rw [HR.out]; rfl, (Kept.refl NoB w).alloc _⟩
  · rw [h1] at hli
    have HL := hide hli
    have HR : Hid (hasPar d p.data.toList = ((d.path.data.toList == parentB p.data.toList && d.kind == 1) || (parentB p.data.toList ++ [47]).isPrefixOf d.path.data.toList)) := by unfold Hid hasPar; simp [h2]
    have hpa : (p.extract 0 i).toList = parentB p.data.toList := by rw [extract_list, h3]; simp [cutL]
    have hpf : Lib.hasPrefix d.path.data.toList (p.extract 0 i ++ ⟨#[47]⟩).data.toList = (parentB p.data.toList ++ [47]).isPrefixOf d.path.data.toList := by
      unfold Lib.hasPrefix
      rw [ByteArray.toList_eq] at hpa
      rw [ByteArray.data_append, Array.toList_append, hpa]
    have HF : Hid (∀ wx, Calls Tryd.prog 57 #[.string d.path, .string (p.extract 0 i)] wx fun e w' => e = .returned (.bool ((parentB p.data.toList ++ [47]).isPrefixOf d.path.data.toList)) ∧ w' = wx) := by
      intro wx
      have := isBelow_any d.path (p.extract 0 i) wx (by rw [ByteArray.size_extract]; omega)
      rw [hpf] at this
      exact this
    have hbq : (d.path.data.toList == parentB p.data.toList) = (d.path.toList == (p.extract 0 i).toList) := by rw [hpa, ByteArray.toList_eq]
    rw [hbq] at HR
    have hps : (p.extract 0 i).size = i := by rw [ByteArray.size_extract]; omega
    clear hli h1 h2 hpf hpa h3 hbq
    generalize (parentB p.data.toList ++ [47]).isPrefixOf d.path.data.toList = bf at *
    cases hb : (d.path.toList == (p.extract 0 i).toList)
    all_goals cases hk : (d.kind == 1)
    all_goals
      rw [hb, hk] at HR
      go_enter Tryd.func49, Tryd.ntmps49
      go_wp2_with fail
      refine (HL.out _).mono ?_
      rintro r w1 ⟨rfl, hw1⟩
      subst hw1
      go_wp2_with fail
      try
        refine (HF.out _).mono ?_
        rintro r w1 ⟨rfl, hw1⟩
        subst hw1
        go_wp2_with fail
      go_ret
      exact ⟨by rw [HR.out]; rfl, (Kept.refl NoB w).alloc _⟩

def followsB (d e : En) : Bool := aheadB (splitS d.path.data.toList) (splitS e.path.data.toList) && hasPar d e.path.data.toList

set_option maxRecDepth 100000 in
set_option maxHeartbeats 4000000 in
theorem follows_any (d e : En) (vd ve : Value) (m : Int) (w : World) (hm : w.cell? ⟨0, 0, none⟩ = some (.int .i64 m)) (hd : d.path.size ≤ 50000000) (he : e.path.size ≤ 50000000) :
    Calls Tryd.prog 38 #[enVal d vd, enVal e ve] w fun r w' => r = .returned (.bool (followsB d e)) ∧ Kept NoB w w' := by
  have HC : Hid (∀ wx, Kept NoB w wx → Calls Tryd.prog 48 #[.string d.path, .string e.path] wx fun r w' => r = .returned (.int .i64 (cmpL (splitS d.path.data.toList) (splitS e.path.data.toList))) ∧ Kept NoB wx w') := fun wx hx => comparePaths_any d.path e.path m wx (hx.cellN hm) hd he
  have HP : Hid (∀ wx, Calls Tryd.prog 49 #[enVal d vd, .string e.path] wx fun r w' => r = .returned (.bool (hasPar d e.path.data.toList)) ∧ Kept NoB wx w') := fun wx => hasParent_any d vd e.path wx he hd
  unfold followsB
  rw [← cmpL_ahead]
  generalize cmpL (splitS d.path.data.toList) (splitS e.path.data.toList) = z at *
  generalize hasPar d e.path.data.toList = b at *
  unfold enVal at *
  clear hm
  by_cases hz : z < 0
  · go_enter Tryd.func38, Tryd.ntmps38
    go_wp2_with fail
    refine (HC.out _ (((Kept.refl NoB w).alloc _).alloc _)).mono ?_
    rintro r w1 ⟨rfl, hk1⟩
    have HK := hide ((((Kept.refl NoB w).alloc _).alloc _).trans' hk1 (fun _ _ h => h))
    obtain ⟨a0, a1, a2, a3, a4, a5, _⟩ := box_cells (hk1.heapN (heap_alloc2_old w _ _))
    obtain ⟨b0, _, _, _, _, _, _⟩ := box_cells (hk1.heapN (heap_alloc2_new w _ _))
    clear hk1
    go_wp2_with fail
    refine (HP.out _).mono ?_
    rintro r w2 ⟨rfl, hk2⟩
    replace HK := hide (HK.out.trans hk2)
    clear hk2 a0 a1 a2 a3 a4 a5 b0
    go_wp2_with fail
    go_ret
    refine ⟨?_, HK.out⟩
    simp [hz]
  · go_enter Tryd.func38, Tryd.ntmps38
    go_wp2_with fail
    refine (HC.out _ (((Kept.refl NoB w).alloc _).alloc _)).mono ?_
    rintro r w1 ⟨rfl, hk1⟩
    have HK := hide ((((Kept.refl NoB w).alloc _).alloc _).trans' hk1 (fun _ _ h => h))
    clear hk1
    go_wp2_with fail
    go_ret
    refine ⟨?_, HK.out⟩
    have hz2 : decide (z < 0) = false := by simpa using hz
    rw [hz2]
    rfl

theorem six_set {w : World} {g : Nat} {x0 x1 x2 x3 x4 x5 : Value} (y0 y1 y2 y3 y4 y5 : Value) {t : TypeId} (h : w.heap[g]? = some (.cells #[x0, x1, x2, x3, x4, x5] t (0, 0))) :
    ((((((w.setCell ⟨g, 0, none⟩ y0).setCell ⟨g, 1, none⟩ y1).setCell ⟨g, 2, none⟩ y2).setCell ⟨g, 3, none⟩ y3).setCell ⟨g, 4, none⟩ y4).setCell ⟨g, 5, none⟩ y5).heap[g]? = some (.cells #[y0, y1, y2, y3, y4, y5] t (0, 0)) := by
  have h0 := heap_setCell_same w g 0 _ t y0 h
  have h1 := heap_setCell_same _ g 1 _ t y1 h0
  have h2 := heap_setCell_same _ g 2 _ t y2 h1
  have h3 := heap_setCell_same _ g 3 _ t y3 h2
  have h4 := heap_setCell_same _ g 4 _ t y4 h3
  have h5 := heap_setCell_same _ g 5 _ t y5 h4
  exact h5
def nilE0 : En := ⟨⟨#[]⟩, 0, 0, 0, [], ⟨#[]⟩⟩
def prevE (es : List En) : Nat → En
  | 0 => nilE0
  | j + 1 => match es[j]? with
    | some e => e
    | none => nilE0
theorem prevE_succ (es : List En) (j : Nat) (hj : j < es.length) : prevE es (j + 1) = es[j] := by simp [prevE, hj]
def stepB (es : List En) (i : Nat) : Bool := match es[i]? with
  | none => true
  | some e => entryOk e && followsB (prevE es i) e
def siltTree (es : List En) : Bool := (List.range es.length).all (stepB es)
theorem siltTree_false (es : List En) (k : Nat) (hk : k < es.length) (h : stepB es k = false) : siltTree es = false := by
  unfold siltTree
  rw [List.all_eq_false]
  exact ⟨k, List.mem_range.2 hk, by simp [h]⟩
theorem siltTree_true (es : List En) (h : ∀ k, k < es.length → stepB es k = true) : siltTree es = true := by
  unfold siltTree
  rw [List.all_eq_true]
  exact fun k hk => h k (List.mem_range.1 hk)
theorem stepB_is (es : List En) (k : Nat) (hk : k < es.length) : stepB es k = (entryOk es[k] && followsB (prevE es k) es[k]) := by simp [stepB, hk]
theorem prevE_size (es : List En) (k B : Nat) (h : ∀ e ∈ es, e.path.size ≤ B) : (prevE es k).path.size ≤ B := by
  cases k with
  | zero => exact Nat.zero_le _
  | succ j =>
    by_cases hj : j < es.length
    · rw [prevE_succ es j hj]; exact h _ (List.getElem_mem hj)
    · have : prevE es (j + 1) = nilE0 := by simp [prevE, List.getElem?_eq_none (show es.length ≤ j by omega)]
      rw [this]; exact Nat.zero_le _

set_option maxRecDepth 100000 in
set_option maxHeartbeats 4000000 in
theorem isTree_any (zs : List (En × Value)) (v : Value) (m : Int) (w : World) (hm : w.cell? ⟨0, 0, none⟩ = some (.int .i64 m)) (ha : EntsAt w v zs) (hla : zs.length ≤ 100000000)
    (hp : ∀ z ∈ zs, z.1.path.size ≤ 50000000) (hn : ∀ z ∈ zs, z.1.notes.length ≤ 100000000) (hcs : ∀ z ∈ zs, z.1.content.size ≤ 9223372036854775807) :
    Calls Tryd.prog 27 #[v] w fun r w' => r = .returned (.bool (siltTree (zs.map (·.1)))) ∧ Kept NoB w w' := by
  obtain ⟨ao, cap, rfl⟩ := ents_shape ha
  have HA := hide ha
  have HM := hide hm
  have HPP := hide hp
  have HN := hide hn
  have HCS := hide hcs
  obtain ⟨n, hn0⟩ : ∃ n, n = zs.length := ⟨_, rfl⟩
  rw [← hn0] at hla ⊢
  have HNZ := hide hn0
  clear ha hm hp hn hcs hn0
  go_enter Tryd.func27, Tryd.ntmps27
  go_wp2_with fail
  obtain ⟨g, hg⟩ : ∃ g, g = w.heap.size := ⟨_, rfl⟩
  rw [← hg]
  have HG := hide hg
  clear hg
  go_loopw [8] (fun i wr => ∃ (k : Nat) (po : Option Addr) (pl pc : Nat), k ≤ n ∧ i = .int .i64 k ∧ wr.heap[g]? = some (.cells #[.string (prevE (zs.map (·.1)) k).path, .int .i64 (prevE (zs.map (·.1)) k).kind, .int .i64 (prevE (zs.map (·.1)) k).mode, .int .i64 (prevE (zs.map (·.1)) k).time, .slice po pl pc, .string (prevE (zs.map (·.1)) k).content] 55 (0, 0)) ∧ (∀ j, j < k → Hid (stepB (zs.map (·.1)) j = true)) ∧ Kept NoB w wr) (fun i _ => n - (intOf i).toNat)
  case atStart =>
    refine ⟨0, none, 0, 0, by omega, rfl, ?_, fun j hj => absurd hj (Nat.not_lt_zero _), (Kept.refl NoB w).alloc _⟩
    rw [HG.out]
    exact heap_alloc_new w _
  case round =>
    obtain ⟨k, po, pl, pc, hk, rfl, hbox, heq, hkept⟩ := hrel
    by_cases hlt : k < n
    · have hltz : k < zs.length := by rw [← HNZ.out]; exact hlt
      have hltm : k < (zs.map (·.1)).length := by simpa using hltz
      have hak := HA.out.keptN hkept
      obtain ⟨b, o, rfl, hca⟩ := ents_at hak k hltz
      have hna := hak.2 zs[k] (List.getElem_mem hltz)
      have hmk : (zs.map (·.1))[k] = zs[k].1 := by simp
      have HST := hide (stepB_is (zs.map (·.1)) k hltm)
      rw [hmk] at HST
      have HPV := hide (prevE_succ (zs.map (·.1)) k hltm)
      rw [hmk] at HPV
      have hps : (prevE (zs.map (·.1)) k).path.size ≤ 50000000 := prevE_size _ _ _ (by
        intro e he
        obtain ⟨z, hz, rfl⟩ := List.mem_map.1 he
        exact HPP.out z hz)
      generalize prevE (zs.map (·.1)) k = D at *
      have H1 : Hid (∀ wx, Kept NoB wr wx → Calls Tryd.prog 37 #[enVal zs[k].1 zs[k].2] wx fun r w' => r = .returned (.bool (entryOk zs[k].1)) ∧ Kept NoB wx w') := fun wx hx => isEntry_any zs[k].1 zs[k].2 m wx (hx.cellN (hkept.cellN HM.out)) (CellsAt.keptN hna (by decide) hx) (by have := HPP.out zs[k] (List.getElem_mem hltz); omega) (HN.out zs[k] (List.getElem_mem hltz)) (HCS.out zs[k] (List.getElem_mem hltz))
      have H2 : Hid (∀ wx, Kept NoB wr wx → Calls Tryd.prog 38 #[enVal D (.slice po pl pc), enVal zs[k].1 zs[k].2] wx fun r w' => r = .returned (.bool (followsB D zs[k].1)) ∧ Kept NoB wx w') := fun wx hx => follows_any D zs[k].1 (.slice po pl pc) zs[k].2 m wx (hx.cellN (hkept.cellN HM.out)) hps (HPP.out zs[k] (List.getElem_mem hltz))
      obtain ⟨nao, ncap, hna2⟩ := notes_len hna
      unfold enVal at H1 H2
      rw [hna2] at H1 H2
      have x0 := hca 0 (by decide)
      have x1 := hca 1 (by decide)
      have x2 := hca 2 (by decide)
      have x3 := hca 3 (by decide)
      have x4 := hca 4 (by decide)
      have x5 := hca 5 (by decide)
      simp only [Nat.add_zero, enCells, hna2, List.getElem?_cons_zero, List.getElem?_cons_succ] at x0 x1 x2 x3 x4 x5
      have HB := hide hbox
      have HKE := hide hkept
      clear hca hna hak hbox hkept hmk hna2
      have HFL := hide (siltTree_false (zs.map (·.1)) k hltm)
      generalize entryOk zs[k].1 = b1 at *
      generalize followsB D zs[k].1 = b2 at *
      cases b1
      · go_wp2_with fail
        refine (H1.out _ ((Kept.refl NoB wr).alloc _)).mono ?_
        rintro r w1 ⟨rfl, hk1⟩
        have HK := hide (((Kept.refl NoB wr).alloc _).trans' hk1 (fun _ _ h => h))
        clear hk1
        go_wp2_with fail
        go_ret
        exact ⟨by rw [HFL.out HST.out]; rfl, HKE.out.trans HK.out⟩
      · cases b2
        all_goals
          go_wp2_with fail
          refine (H1.out _ ((Kept.refl NoB wr).alloc _)).mono ?_
          rintro r w1 ⟨rfl, hk1⟩
          have HK := hide (((Kept.refl NoB wr).alloc _).trans' hk1 (fun _ _ h => h))
          have HE := hide (hk1.heapN (heap_alloc_new wr _))
          obtain ⟨a0, a1, a2, a3, a4, a5, _⟩ := box_cells HE.out
          obtain ⟨d0, d1, d2, d3, d4, d5, _⟩ := box_cells (HK.out.heapN HB.out)
          clear hk1
          go_wp2_with fail
          refine (H2.out _ HK.out).mono ?_
          rintro r w2 ⟨rfl, hk2⟩
          replace HK := hide (HK.out.trans hk2)
          replace HE := hide (hk2.heapN HE.out)
          obtain ⟨e0, e1, e2, e3, e4, e5, _⟩ := box_cells HE.out
          have HBB := hide (HK.out.heapN HB.out)
          obtain ⟨f0, f1, f2, f3, f4, f5, ff⟩ := box_cells HBB.out
          have hsz2 : g < w2.heap.size := (Array.getElem?_eq_some_iff.1 HBB.out).1
          clear hk2 a0 a1 a2 a3 a4 a5 d0 d1 d2 d3 d4 d5
          go_wp2_with fail
          first
            | (go_ret
               exact ⟨by rw [HFL.out HST.out]; rfl, HKE.out.trans HK.out⟩)
            | (go_roundw
               case rel =>
                 refine ⟨k + 1, nao, zs[k].1.notes.length, ncap, by omega, by go_num, ?_, upTo heq HST, ?_⟩
                 · rw [HPV.out]
                   exact six_set _ _ _ _ _ _ HBB.out
                 · have hgw : ¬ g < w.heap.size := by rw [HG.out]; omega
                   exact ((((((HKE.out.trans HK.out).setCell ⟨g, 0, none⟩ (fun h => absurd h hgw) _).setCell ⟨g, 1, none⟩ (fun h => absurd h hgw) _).setCell ⟨g, 2, none⟩ (fun h => absurd h hgw) _).setCell ⟨g, 3, none⟩ (fun h => absurd h hgw) _).setCell ⟨g, 4, none⟩ (fun h => absurd h hgw) _).setCell ⟨g, 5, none⟩ (fun h => absurd h hgw) _
               case measure => simp [intOf]; omega)
    · have HZ : Hid (siltTree (zs.map (·.1)) = true) := siltTree_true _ (fun j hj => (heq j (by
        rw [List.length_map, ← HNZ.out] at hj; omega)).out)
      go_wp2_with fail
      go_ret
      exact ⟨by rw [HZ.out]; rfl, hkept⟩
end Go.Proofs.YtidioioldlmciaaDoor
