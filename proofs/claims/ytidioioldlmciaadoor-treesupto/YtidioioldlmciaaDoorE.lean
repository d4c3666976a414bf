import Derived.Test.YtidioioldlmciaaDoorD
namespace Go.Proofs.YtidioioldlmciaaDoor
open Go.RowKit

def kindOk (k : Int) (c : ByteArray) : Bool := if k = 0 then true else if k = 1 then decide (c.size = 0) else if k = 2 then decide (1 ≤ c.size) && decide (c.size ≤ 64) else false
def entryOk (e : En) : Bool := okPath e.path.data.toList && notesOk e.notes && (decide (0 ≤ e.mode) && decide (e.mode ≤ 4095)) && (decide (0 ≤ e.time) && decide (e.time ≤ 1099511627775)) && kindOk e.kind e.content

theorem cell_box (w : World) (cs : Array Value) (t : TypeId) {w1 : World} (h : Kept NoB (w.alloc (.cells cs t)) w1) (j : Nat) : w1.cell? ⟨w.heap.size, j, none⟩ = cs[j]? := by
  rw [cell_of_row w1 w.heap.size j cs t (0, 0) (h.heapN (heap_alloc_new w _))]

theorem empty_list (c : ByteArray) : c.toList.isEmpty = decide (c.size = 0) := by
  rw [ByteArray.toList_eq]
  have : c.size = c.data.toList.length := by rw [Array.length_toList]; rfl
  rw [this]
  cases c.data.toList <;> simp

theorem kind_full (k : Int) (c : ByteArray) : (k = 0 ∧ kindOk k c = true) ∨ (k = 1 ∧ c.toList.isEmpty = true ∧ kindOk k c = true) ∨ (k = 1 ∧ c.toList.isEmpty = false ∧ kindOk k c = false) ∨
    (k = 2 ∧ (1 : Int) ≤ (c.size : Int) ∧ (c.size : Int) ≤ 64 ∧ kindOk k c = true) ∨ (k = 2 ∧ (c.size : Int) < 1 ∧ kindOk k c = false) ∨ (k = 2 ∧ (1 : Int) ≤ (c.size : Int) ∧ decide ((c.size : Int) ≤ 64) = false ∧ kindOk k c = false) ∨
    ((k == 0) = false ∧ (k == 1) = false ∧ (k == 2) = false ∧ kindOk k c = false) := by
  rw [empty_list]
  unfold kindOk
  by_cases h0 : k = 0
  · simp [h0]
  · by_cases h1 : k = 1
    · subst h1; by_cases hc : c.size = 0 <;> simp [hc]
    · by_cases h2 : k = 2
      · subst h2
        by_cases a : 1 ≤ c.size <;> by_cases b : c.size ≤ 64 <;> simp [a, b] <;> omega
      · simp [h0, h1, h2]
theorem entry_cases (e : En) : (entryOk e = false ∧ (okPath e.path.data.toList = false ∨ (okPath e.path.data.toList = true ∧ notesOk e.notes = false) ∨ (okPath e.path.data.toList = true ∧ notesOk e.notes = true ∧ e.mode < 0) ∨
      (okPath e.path.data.toList = true ∧ notesOk e.notes = true ∧ 0 ≤ e.mode ∧ 4095 < e.mode) ∨ (okPath e.path.data.toList = true ∧ notesOk e.notes = true ∧ 0 ≤ e.mode ∧ e.mode ≤ 4095 ∧ e.time < 0) ∨
      (okPath e.path.data.toList = true ∧ notesOk e.notes = true ∧ 0 ≤ e.mode ∧ e.mode ≤ 4095 ∧ 0 ≤ e.time ∧ 1099511627775 < e.time))) ∨
    (okPath e.path.data.toList = true ∧ notesOk e.notes = true ∧ 0 ≤ e.mode ∧ e.mode ≤ 4095 ∧ 0 ≤ e.time ∧ e.time ≤ 1099511627775 ∧ entryOk e = kindOk e.kind e.content) := by
  unfold entryOk
  cases hP : okPath e.path.data.toList
  · left; simp
  · cases hN : notesOk e.notes
    · left; simp
    · by_cases h1 : 0 ≤ e.mode
      · by_cases h2 : e.mode ≤ 4095
        · by_cases h3 : 0 ≤ e.time
          · by_cases h4 : e.time ≤ 1099511627775
            · right; simp [h1, h2, h3, h4]
            · left; simp [h1, h2, h3, h4]; omega
          · left; simp [h1, h2, h3]; omega
        · left; simp [h1, h2]; omega
      · left; simp [h1]; omega

set_option maxRecDepth 100000 in
set_option maxHeartbeats 8000000 in
theorem entry_any (e : En) (v : Value) (w : World) (hv : NotesAt w v e.notes) (hp : e.path.size ≤ 2000000) (hl : e.notes.length ≤ 100000000) (hcs : e.content.size ≤ 100000000) :
    Calls Tryd.prog 29 #[enVal e v] w fun r w' => r = .returned (.bool (entryOk e)) ∧ Kept NoB w w' := by
  unfold enVal
  rcases entry_cases e with ⟨hR, hc⟩ | ⟨hP, hN, hm1, hm2, ht1, ht2, hc⟩
  · have HR := hide hR
    clear hR
    obtain ⟨okP, hokP⟩ : ∃ b, b = okPath e.path.data.toList := ⟨_, rfl⟩
    obtain ⟨okN, hokN⟩ : ∃ b, b = notesOk e.notes := ⟨_, rfl⟩
    rw [← hokP, ← hokN] at hc
    have HP := hide hokP
    have HN := hide hokN
    clear hokP hokN
    rcases hc with hc | ⟨hc, hc2⟩ | ⟨hc, hc2, h3⟩ | ⟨hc, hc2, h3, h4⟩ | ⟨hc, hc2, h3, h4, h5⟩ | ⟨hc, hc2, h3, h4, h5, h6⟩
    all_goals
      go_enter Tryd.func29, Tryd.ntmps29
      go_wp2_with fail
      refine (Parts_any e.path _ hp).mono ?_
      rintro r w1 ⟨pv, rfl, hk1, _⟩
      rw [← HP.out]
      have hkk : Kept NoB w w1 := ((Kept.refl NoB w).alloc _).trans' hk1 (fun _ _ h => h)
      have c2 := cell_box w _ 55 hk1 2
      have c3 := cell_box w _ 55 hk1 3
      have c4 := cell_box w _ 55 hk1 4
      simp at c2 c3 c4
      have HK := hide hk1
      clear hk1
      go_wp2_with fail
      refine (notes_any e.notes v _ (CellsAt.keptN hv (by decide) hkk) hl).mono ?_
      rintro r w2 ⟨rfl, hk2⟩
      rw [← HN.out]
      have d2 := hk2.cellN c2
      have d3 := hk2.cellN c3
      clear c2 c3 c4
      have HK2 := hide (hkk.trans hk2)
      clear hk2 hkk
      go_wp2_with fail
      all_goals
        go_ret
        exact ⟨by rw [HR.out]; rfl, HK2.out⟩
  · have HR := hide hc
    clear hc
    go_enter Tryd.func29, Tryd.ntmps29
    go_wp2_with fail
    refine (Parts_any e.path _ hp).mono ?_
    rintro r w1 ⟨pv, rfl, hk1, _⟩
    rw [hP]
    have hkk : Kept NoB w w1 := ((Kept.refl NoB w).alloc _).trans' hk1 (fun _ _ h => h)
    have c1 := cell_box w _ 55 hk1 1
    have c2 := cell_box w _ 55 hk1 2
    have c3 := cell_box w _ 55 hk1 3
    have c4 := cell_box w _ 55 hk1 4
    have c5 := cell_box w _ 55 hk1 5
    simp at c1 c2 c3 c4 c5
    have HK := hide hk1
    clear hk1 hP
    go_wp2_with fail
    refine (notes_any e.notes v _ (CellsAt.keptN hv (by decide) hkk) hl).mono ?_
    rintro r w2 ⟨rfl, hk2⟩
    rw [hN]
    have d1 := hk2.cellN c1
    have d2 := hk2.cellN c2
    have d3 := hk2.cellN c3
    have d5 := hk2.cellN c5
    clear c1 c2 c3 c4 c5 hN
    have HK2 := hide (hkk.trans hk2)
    clear hk2 hkk
    rcases kind_full e.kind e.content with ⟨hk, hv0⟩ | ⟨hk, he, hv0⟩ | ⟨hk, he, hv0⟩ | ⟨hk, h1, h2, hv0⟩ | ⟨hk, h1, hv0⟩ | ⟨hk, h1, h2, hv0⟩ | ⟨hk1, hk2, hk3, hv0⟩
    all_goals
      have KR := hide hv0
      clear hv0
      go_wp2_with fail
      all_goals
        go_ret
        exact ⟨by rw [HR.out, KR.out]; rfl, HK2.out⟩

def dirB (es : List En) (p : List UInt8) : Bool := es.any fun e => e.path.toList == p && e.kind == 1

theorem ents_at {w : World} {ao : Option Addr} {cap : Nat} {zs : List (En × Value)} (h : EntsAt w (.slice ao zs.length cap) zs) (k : Nat) (hk : k < zs.length) :
    ∃ b o, ao = some ⟨b, o, none⟩ ∧ ∀ j, j < 6 → w.cell? ⟨b, o + k * 6 + j, none⟩ = (enCells zs[k])[j]? := by
  obtain ⟨b, o, e, h2⟩ := CellsAt.at h.1 (by omega)
  refine ⟨b, o, e, fun j hj => ?_⟩
  rw [Nat.add_assoc, h2 (k * 6 + j) (by omega)]
  exact flat_at enCells 6 (fun _ => rfl) zs k j hk hj
theorem EntsAt.keptN {w w' : World} {v : Value} {zs : List (En × Value)} (h : EntsAt w v zs) (hk : Kept NoB w w') : EntsAt w' v zs :=
  ⟨h.1.keptN (by decide) hk, fun z hz => CellsAt.keptN (h.2 z hz) (by decide) hk⟩

set_option maxRecDepth 100000 in
set_option maxHeartbeats 4000000 in
theorem dir_any (zs : List (En × Value)) (v : Value) (p : ByteArray) (w : World) (ha : EntsAt w v zs) (hla : zs.length ≤ 100000000) :
    Calls Tryd.prog 32 #[v, .string p] w fun e w' => e = .returned (.bool (dirB (zs.map (·.1)) p.toList)) ∧ w' = w := by
  obtain ⟨ao, cap, rfl, hc⟩ := CellsAt.shape ha.1
  go_enter Tryd.func32, Tryd.ntmps32
  go_wp2
  go_loop [5] (fun i => ∃ k : Nat, k ≤ zs.length ∧ i = .int .i64 k ∧ (∀ j (hj : j < zs.length), j < k → Hid ((zs[j].1.path.toList == p.toList && zs[j].1.kind == 1) = false))) (fun i => zs.length - (intOf i).toNat)
  case atStart => exact ⟨0, by omega, rfl, fun j _ hj => absurd hj (Nat.not_lt_zero _)⟩
  case round =>
    obtain ⟨k, hka, rfl, heq⟩ := hrel
    by_cases h1 : k < zs.length
    · obtain ⟨b, o, rfl, hcell⟩ := ents_at ha k h1
      have c0 := hcell 0 (by decide)
      have c1 := hcell 1 (by decide)
      simp [enCells] at c0 c1
      clear hcell
      cases h2 : (zs[k].1.path.toList == p.toList) with
      | false =>
        have HN : Hid ((zs[k].1.path.toList == p.toList && zs[k].1.kind == 1) = false) := by rw [h2]; rfl
        go_wp2
        go_round
        case rel => exact ⟨k + 1, by omega, by go_num, fun j hj hjk => by
          rcases Nat.lt_or_ge j k with h | h
          · exact heq j hj h
          · obtain rfl : j = k := by omega
            exact HN⟩
        case measure => simp [intOf]; omega
      | true =>
        cases h3 : (zs[k].1.kind == 1) with
        | false =>
          have HN : Hid ((zs[k].1.path.toList == p.toList && zs[k].1.kind == 1) = false) := by rw [h3, Bool.and_false]; rfl
          go_wp2
          go_round
          case rel => exact ⟨k + 1, by omega, by go_num, fun j hj hjk => by
            rcases Nat.lt_or_ge j k with h | h
            · exact heq j hj h
            · obtain rfl : j = k := by omega
              exact HN⟩
          case measure => simp [intOf]; omega
        | true =>
          have HT : Hid (dirB (zs.map (·.1)) p.toList = true) := by
            unfold Hid dirB
            rw [List.any_eq_true]
            exact ⟨zs[k].1, List.mem_map.2 ⟨zs[k], List.getElem_mem h1, rfl⟩, by rw [h2, h3]; rfl⟩
          go_wp2
          go_ret
          exact ⟨by rw [HT.out]; rfl, rfl⟩
    · have HF : Hid (dirB (zs.map (·.1)) p.toList = false) := by
        unfold Hid dirB
        rw [List.any_eq_false]
        intro x hx
        obtain ⟨z, hz, rfl⟩ := List.mem_map.1 hx
        obtain ⟨j, hj, rfl⟩ := List.getElem_of_mem hz
        rw [(heq j hj (by omega)).out]; decide
      go_wp2
      go_ret
      exact ⟨by rw [HF.out]; rfl, rfl⟩
end Go.Proofs.YtidioioldlmciaaDoor
