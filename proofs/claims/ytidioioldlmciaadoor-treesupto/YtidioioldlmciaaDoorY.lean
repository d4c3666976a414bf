import Derived.Test.YtidioioldlmciaaDoorX
namespace Go.Proofs.YtidioioldlmciaaDoor
open Go.RowKit

def faultCells (code : Int) : Array Value := (.int .i64 code :: List.replicate 32 (Value.int .u8 0)).toArray
theorem fault_new (w : World) (code : Int) (t : TypeId) : FaultAt (w.alloc (.cells (faultCells code) t)) (.iface 60 (.pointer (some ⟨w.heap.size, 0, none⟩))) code := by
  refine ⟨w.heap.size, rfl, ?_, fun j hj => ?_⟩
  · rw [cell_of_row _ _ _ _ _ _ (heap_alloc_new w _)]; rfl
  · rw [cell_of_row _ _ _ _ _ _ (heap_alloc_new w _)]
    unfold faultCells
    rw [List.getElem?_toArray, Nat.add_comm, List.getElem?_cons_succ, List.getElem?_replicate, if_pos hj]

/-- what a call that tells bytes or a fault has answered -/
def BytesAns (w w' : World) (r : Ending) (a : List UInt8 × Int) : Prop :=
  ∃ v ev, r = .returned (.tuple #[v, ev]) ∧ w'.ownsRow w.heap.size 5 1 v a.1.length (byteL a.1) ∧ ((a.2 = 0 ∧ ev = .nilIface) ∨ (a.2 ≠ 0 ∧ FaultAt w' ev a.2)) ∧ Kept NoB w w'

theorem upN {w0 w wx : World} (hk : Kept NoB w0 w) (h : Kept (UpB w0.heap.size) w wx) : Kept NoB w0 wx := hk.trans' h (fun i hi hx => by unfold UpB at hx; omega)
theorem nil_owns (w : World) (B : Nat) : w.ownsRow B 5 1 (.slice none 0 0) ([] : List UInt8).length (byteL []) := ⟨rfl, .inl ⟨rfl, rfl⟩⟩
theorem en_split (e : En) : enBytes e = (headBytes e ++ e.notes.flatMap ntBytes ++ numB e.content.size 4) ++ e.content.data.toList := rfl

set_option maxRecDepth 100000 in
set_option maxHeartbeats 8000000 in
theorem Write_any (zs : List (En × Value)) (v : Value) (m : Int) (w : World) (hm : w.cell? ⟨0, 0, none⟩ = some (.int .i64 m)) (ha : EntsAt w v zs) (hla : zs.length ≤ 2000000)
    (hp : ∀ z ∈ zs, z.1.path.size ≤ 2000000 ∧ z.1.notes.length ≤ 2000000 ∧ z.1.content.size ≤ 2000000) :
    Calls Tryd.prog 18 #[v] w fun r w' => BytesAns w w' r (streamAns (zs.map (·.1))) := by
  obtain ⟨ao, cap, rfl⟩ := ents_shape ha
  have hit := isTree_any zs _ m w hm ha (by omega) (fun z hz => by have := (hp z hz).1; omega) (fun z hz => by have := (hp z hz).2.1; omega) (fun z hz => by have := (hp z hz).2.2; omega)
  rw [tree_eq] at hit
  have HA := hide ha
  have HPP := hide hp
  obtain ⟨n, hn0⟩ : ∃ n, n = zs.length := ⟨_, rfl⟩
  rw [← hn0] at hla hit ⊢
  have HNZ := hide hn0
  have HIT := hide hit
  clear ha hm hp hn0 hit
  cases hT : isTreeB (zs.map (·.1))
  · rw [hT] at HIT
    have HS : Hid (streamAns (zs.map (·.1)) = ([], 8)) := by unfold Hid streamAns; rw [hT]; rfl
    rw [HS.out]
    clear hT
    go_enter Tryd.func18, Tryd.ntmps18
    go_wp2_with fail
    refine HIT.out.mono ?_
    rintro r w1 ⟨rfl, hk1⟩
    have HK := hide hk1
    clear hk1
    go_wp2_with fail
    go_ret2
    exact ⟨_, _, rfl, nil_owns _ _, .inr ⟨by decide, fault_new w1 8 64⟩, HK.out.alloc _⟩
  · rw [hT] at HIT
    have HT := hide hT
    clear hT
    go_enter Tryd.func18, Tryd.ntmps18
    go_wp2_with fail
    refine HIT.out.mono ?_
    rintro r w1 ⟨rfl, hk1⟩
    have HK := hide hk1
    clear hk1 HIT
    go_wp2_with fail
    go_loopw [4, 15] (fun u i wr => ∃ (k : Nat) (ao1 : Option Addr) (cap1 : Nat) (lk : List UInt8), k ≤ n ∧ i = .int .i64 k ∧ u = .slice ao1 lk.length cap1 ∧ Hid (lk = streamB ((zs.take k).map (·.1))) ∧ lk.length ≤ 65536 ∧ Hid (wr.ownsRow w.heap.size 5 1 (.slice ao1 lk.length cap1) lk.length (byteL lk)) ∧ Kept NoB w wr) (fun _ i _ => n - (intOf i).toNat)
    case atStart => exact ⟨0, none, 0, [], by omega, rfl, rfl, rfl, by simp, nil_owns _ _, HK.out⟩
    case round =>
      obtain ⟨k, ao1, cap1, lk, hk, rfl, rfl, hlk, hlen, hown, hkept⟩ := hrel
      by_cases hlt : k < n
      · have hltz : k < zs.length := by rw [← HNZ.out]; exact hlt
        have hak := HA.out.keptN hkept
        rw [← HNZ.out] at hak
        have hak0 := HA.out
        obtain ⟨b, o, rfl, hca⟩ := ents_at (by rw [HNZ.out] at hak; exact hak) k hltz
        have hna := hak.2 zs[k] (List.getElem_mem hltz)
        obtain ⟨nao, ncap, hna2⟩ := notes_len hna
        obtain ⟨_, _, hcs⟩ := HPP.out zs[k] (List.getElem_mem hltz)
        have hok : entryOk zs[k].1 = true := treeAt_entry zs k hltz (isTree_at HT.out k (by simpa using hltz))
        have HN : Hid (∀ wx, Kept (UpB w.heap.size) wr wx → NotesAt wx zs[k].2 zs[k].1.notes) := fun wx hx => (HA.out.keptN (upN hkept hx)).2 zs[k] (List.getElem_mem hltz)
        have HAH : Hid (∀ wx, Kept (UpB w.heap.size) wr wx → wx.ownsRow w.heap.size 5 1 (.slice ao1 lk.length cap1) lk.length (byteL lk) → w.heap.size ≤ wx.heap.size →
            Calls Tryd.prog 28 #[.slice ao1 lk.length cap1, enVal zs[k].1 zs[k].2] wx fun r w' => ∃ v', r = .returned v' ∧ Grew wx w' w.heap.size (.slice ao1 lk.length cap1) v' (lk ++ (headBytes zs[k].1 ++ zs[k].1.notes.flatMap ntBytes ++ numB zs[k].1.content.size 4))) :=
          fun wx hx ho hb => appendHead_any w.heap.size _ lk zs[k].1 zs[k].2 wx ho hb (by omega) (fun wy hy => HN.out wy (hx.trans hy)) hok (by omega)
        have x0 := hca 0 (by decide)
        have x1 := hca 1 (by decide)
        have x2 := hca 2 (by decide)
        have x3 := hca 3 (by decide)
        have x4 := hca 4 (by decide)
        have x5 := hca 5 (by decide)
        simp only [Nat.add_zero, enCells, hna2, List.getElem?_cons_zero, List.getElem?_cons_succ] at x0 x1 x2 x3 x4 x5
        unfold enVal at HAH
        rw [hna2] at HAH
        have hbase : w.heap.size ≤ wr.heap.size := hkept.size
        have HKE := hide hkept
        have HES := hide (en_split zs[k].1)
        have HSN := hide (stream_snoc zs k hltz)
        have HSL := hide (stream_le zs k hltz)
        clear hca hna hak hak0 hna2 hok hkept
        go_wp2_with fail
        obtain ⟨gb, hgb⟩ : ∃ gb, gb = wr.heap.size := ⟨_, rfl⟩
        have hbx := heap_alloc_new wr (.cells #[.string zs[k].1.path, .int .i64 zs[k].1.kind, .int .i64 zs[k].1.mode, .int .i64 zs[k].1.time, .slice nao zs[k].1.notes.length ncap, .string zs[k].1.content] 55)
        have hka : Kept NoB wr (wr.alloc (.cells #[.string zs[k].1.path, .int .i64 zs[k].1.kind, .int .i64 zs[k].1.mode, .int .i64 zs[k].1.time, .slice nao zs[k].1.notes.length ncap, .string zs[k].1.content] 55)) := (Kept.refl NoB wr).alloc _
        rw [← hgb] at hbx ⊢
        generalize wr.alloc (.cells #[.string zs[k].1.path, .int .i64 zs[k].1.kind, .int .i64 zs[k].1.mode, .int .i64 zs[k].1.time, .slice nao zs[k].1.notes.length ncap, .string zs[k].1.content] 55) = wa at *
        have howna := hka.owns hown.out (fun _ _ x => x)
        have HOA := hide howna
        refine (HAH.out wa (hka.mono (fun _ _ h => absurd h (fun x => x))) howna (Nat.le_trans hbase hka.size)).mono ?_
        rintro r w2 ⟨v2, rfl, hg2⟩
        obtain ⟨_, _, _, _, _, c5, _⟩ := box_cells (hg2.heap howna hbx (by decide))
        obtain ⟨l2, hl2⟩ : ∃ x, x = lk ++ (headBytes zs[k].1 ++ zs[k].1.notes.flatMap ntBytes ++ numB zs[k].1.content.size 4) := ⟨_, rfl⟩
        rw [← hl2] at hg2
        have hmax := owns_max hg2.own
        obtain ⟨ao2, cap2, rfl⟩ := owns_shape hg2.own
        have HK2 := hide (hg2.keptN howna (HKE.out.trans hka))
        have HO2 := hide hg2.own
        have hb2 : w.heap.size ≤ w2.heap.size := HK2.out.size
        have HTOT : Hid (l2.length + zs[k].1.content.size = lk.length + (enBytes zs[k].1).length ∧ l2 ++ zs[k].1.content.data.toList = lk ++ enBytes zs[k].1) := by
          unfold Hid
          rw [HES.out, hl2]
          constructor
          · simp only [List.length_append, ← Lib.size_eq]; omega
          · simp only [List.append_assoc]
        clear hbx hka howna hg2 hl2 hgb x0 x1 x2 x3 x4 x5
        by_cases hbig : 65536 < l2.length + zs[k].1.content.size
        · have HS : Hid (streamAns (zs.map (·.1)) = ([], 7)) := by
            unfold Hid streamAns
            have h1 := HSL.out
            have h2 := HTOT.out.1
            rw [← hlk.out] at h1
            rw [HT.out, if_neg (by decide), if_pos (by omega)]
          go_wp2_with fail
          go_ret2
          rw [HS.out]
          exact ⟨_, _, rfl, nil_owns _ _, .inr ⟨by decide, fault_new w2 7 64⟩, HK2.out.alloc _⟩
        · have HCL := hide (Lib.size_eq zs[k].1.content)
          go_wp2_with (at_builtin; refine wpList_append2 _ rfl (.tmp 32) (.tmp 34) 32 9 rfl w.heap.size 5 (.int .u8 0) 1 1 Tryd.underlying32 info5 rfl (.slice ao2 l2.length cap2) l2.length _ rfl HO2.out (.string zs[k].1.content) zs[k].1.content.size (byteCells zs[k].1.content) rfl (Src.ofString _ Tryd.underlying9 zs[k].1.content) (by omega) (by unfold maxLen; omega) (by omega) ?_; intro v' w3 hown' hold' hg3 hl3; obtain ⟨ao3, cap3, rfl⟩ := owns_shape hown')
          go_roundw
          case rel =>
            have hl4 : l2.length + zs[k].1.content.size = (lk ++ enBytes zs[k].1).length := by rw [List.length_append]; exact HTOT.out.1
            rw [byteCells_eq, ← byteL_append, HTOT.out.2, hl4] at hown'
            rw [hl4]
            refine ⟨k + 1, ao3, cap3, lk ++ enBytes zs[k].1, by omega, by go_num, rfl, hide (by rw [HSN.out, ← hlk.out]), by omega, hide hown', HK2.out.grown hg3 (fun j hj hx => ?_)⟩
            have := (HO2.out.lt j hj).1
            omega
          case measure => simp [intOf]; omega
      · have HKK : Hid (k = zs.length) := by unfold Hid; rw [← HNZ.out]; omega
        have hst : lk = streamB (zs.map (·.1)) := by rw [hlk.out, HKK.out, List.take_length]
        have HS : Hid (streamAns (zs.map (·.1)) = (lk, 0)) := by unfold Hid streamAns; rw [HT.out, ← hst]; simp; omega
        clear hst
        go_wp2_with fail
        go_ret2
        rw [HS.out]
        exact ⟨_, _, rfl, hown.out, .inl ⟨rfl, rfl⟩, hkept⟩

set_option maxRecDepth 100000 in
set_option maxHeartbeats 8000000 in
theorem Stream_any (zs : List (En × Value)) (v : Value) (m : Int) (w : World) (hm : w.cell? ⟨0, 0, none⟩ = some (.int .i64 m)) (ha : EntsAt w v zs) (hla : zs.length ≤ 2000000)
    (hp : ∀ z ∈ zs, z.1.path.size ≤ 2000000 ∧ z.1.notes.length ≤ 2000000 ∧ z.1.content.size ≤ 2000000) :
    Calls Tryd.prog 6 #[v] w fun r w' => BytesAns w w' r (streamAns (zs.map (·.1))) := by
  have HW := hide (Write_any zs v m w hm ha hla hp)
  clear hm ha hp
  go_enter Tryd.func6, Tryd.ntmps6
  go_wp2_with fail
  refine HW.out.mono ?_
  rintro r w1 ⟨bv, ev, rfl, h1, h2, h3⟩
  have HB := hide (And.intro h1 (And.intro h2 h3))
  clear h1 h2 h3
  go_wp2_with fail
  go_ret2
  exact ⟨_, _, rfl, HB.out.1, HB.out.2.1, HB.out.2.2⟩
end Go.Proofs.YtidioioldlmciaaDoor
