import Derived.Test.YtidioioldlmciaaDoorT
namespace Go.Proofs.YtidioioldlmciaaDoor
open Go.RowKit

theorem entry_eq (e : En) : entryOk e = (okPath e.path.data.toList && ((decide (0 ≤ e.mode) && decide (e.mode ≤ 4095)) && ((decide (0 ≤ e.time) && decide (e.time ≤ 1099511627775)) && (notesOk e.notes && kindOk e.kind e.content)))) := by
  unfold entryOk
  cases okPath e.path.data.toList <;> cases notesOk e.notes <;> cases (decide (0 ≤ e.mode) && decide (e.mode ≤ 4095)) <;> cases (decide (0 ≤ e.time) && decide (e.time ≤ 1099511627775)) <;> simp

set_option maxRecDepth 100000 in
set_option maxHeartbeats 8000000 in
theorem isHead_any (e : En) (x : ByteArray) (v : Value) (m : Int) (w : World) (hm : w.cell? ⟨0, 0, none⟩ = some (.int .i64 m)) (hv : NotesAt w v e.notes) (hp : e.path.size ≤ 9223372036854775807) (hl : e.notes.length ≤ 100000000) (_hcs : e.content.size ≤ 9223372036854775807) :
    Calls Tryd.prog 45 #[.agg #[.string e.path, .int .i64 e.kind, .int .i64 e.mode, .int .i64 e.time, v, .string x], .int .i64 e.content.size] w fun r w' => r = .returned (.bool (entryOk e)) ∧ Kept NoB w w' := by
  rw [entry_eq]
  have H1 : ∀ wx, Kept NoB w wx → Calls Tryd.prog 50 #[.string e.path] wx fun r w' => r = .returned (.bool (okPath e.path.data.toList)) ∧ Kept NoB wx w' := fun wx hx => isPath_any e.path m wx (hx.cellN hm) hp
  have H2 := within_any e.mode 0 4095
  have H3 := within_any e.time 0 1099511627775
  have H4 : ∀ wx, Kept NoB w wx → Calls Tryd.prog 52 #[v] wx fun r w' => r = .returned (.bool (notesOk e.notes)) ∧ Kept NoB wx w' := fun wx hx => areNotes_any e.notes v wx (CellsAt.keptN hv (by decide) hx) hl
  have H5 := isContent_any e.kind e.content
  generalize okPath e.path.data.toList = b1 at *
  generalize (decide (0 ≤ e.mode) && decide (e.mode ≤ 4095)) = b2 at *
  generalize (decide (0 ≤ e.time) && decide (e.time ≤ 1099511627775)) = b3 at *
  generalize notesOk e.notes = b4 at *
  generalize kindOk e.kind e.content = b5 at *
  replace H1 := hide H1
  replace H2 := hide H2
  replace H3 := hide H3
  replace H4 := hide H4
  replace H5 := hide H5
  clear hm hv
  cases b1
  · go_enter Tryd.func45, Tryd.ntmps45
    go_wp2_with fail
    refine (H1.out _ ((Kept.refl NoB w).alloc _)).mono ?_
    rintro r w1 ⟨rfl, hk1⟩
    have HK := hide (((Kept.refl NoB w).alloc _).trans' hk1 (fun _ _ h => h))
    go_wp2_with fail
    go_ret
    exact ⟨rfl, HK.out⟩
  · cases b2
    all_goals cases b3
    all_goals cases b4
    all_goals
      go_enter Tryd.func45, Tryd.ntmps45
      go_wp2_with fail
      refine (H1.out _ ((Kept.refl NoB w).alloc _)).mono ?_
      rintro r w1 ⟨rfl, hk1⟩
      have c1 := cell_box w _ 55 hk1 1
      have c2 := cell_box w _ 55 hk1 2
      have c3 := cell_box w _ 55 hk1 3
      have c4 := cell_box w _ 55 hk1 4
      simp at c1 c2 c3 c4
      have HK := hide (((Kept.refl NoB w).alloc _).trans' hk1 (fun _ _ h => h))
      clear hk1
      go_wp2_with fail
      refine (H2.out _).mono ?_
      rintro r w2 ⟨rfl, hw2⟩
      subst hw2
      go_wp2_with fail
      try
        refine (H3.out _).mono ?_
        rintro r w2 ⟨rfl, hw2⟩
        subst hw2
        go_wp2_with fail
      try
        refine (H4.out _ HK.out).mono ?_
        rintro r w2 ⟨rfl, hk2⟩
        replace c1 := hk2.cellN c1
        replace HK := hide (HK.out.trans hk2)
        clear c2 c3 c4 hk2
        go_wp2_with fail
      try
        refine (H5.out _).mono ?_
        rintro r w3 ⟨rfl, hw3⟩
        subst hw3
        go_wp2_with fail
      go_ret
      exact ⟨by simp, HK.out⟩

set_option maxRecDepth 100000 in
set_option maxHeartbeats 8000000 in
theorem isEntry_any (e : En) (v : Value) (m : Int) (w : World) (hm : w.cell? ⟨0, 0, none⟩ = some (.int .i64 m)) (hv : NotesAt w v e.notes) (hp : e.path.size ≤ 9223372036854775807) (hl : e.notes.length ≤ 100000000) (hcs : e.content.size ≤ 9223372036854775807) :
    Calls Tryd.prog 37 #[enVal e v] w fun r w' => r = .returned (.bool (entryOk e)) ∧ Kept NoB w w' := by
  have HC : Hid (∀ wx, Kept NoB w wx → Calls Tryd.prog 45 #[.agg #[.string e.path, .int .i64 e.kind, .int .i64 e.mode, .int .i64 e.time, v, .string e.content], .int .i64 e.content.size] wx fun r w' => r = .returned (.bool (entryOk e)) ∧ Kept NoB wx w') := fun wx hx => isHead_any e e.content v m wx (hx.cellN hm) (CellsAt.keptN hv (by decide) hx) hp hl hcs
  unfold enVal
  clear hm hv
  go_enter Tryd.func37, Tryd.ntmps37
  go_wp2_with fail
  refine (HC.out _ ((Kept.refl NoB w).alloc _)).mono ?_
  rintro r w1 ⟨rfl, hk1⟩
  have HK := hide (((Kept.refl NoB w).alloc _).trans' hk1 (fun _ _ h => h))
  clear hk1
  go_wp2_with fail
  go_ret
  exact ⟨rfl, HK.out⟩

set_option maxRecDepth 100000 in
set_option maxHeartbeats 4000000 in
theorem isNaN_any (a : ByteArray) (w : World) : Calls Tryd.prog 65 #[.string a] w fun r w' => r = .returned (.bool false) ∧ w' = w := by
  have h1 : (a.toList == a.toList) = true := by simp
  go_enter Tryd.func65, Tryd.ntmps65
  go_wp2_with fail
  go_ret
  exact ⟨rfl, rfl⟩

def cmpS (a b : List UInt8) : Int := if Op.bytesLess a b then -1 else if Op.bytesLess b a then 1 else 0

set_option maxRecDepth 100000 in
set_option maxHeartbeats 4000000 in
theorem cmp_any (a b : ByteArray) (w : World) : Calls Tryd.prog 59 #[.string a, .string b] w fun r w' => r = .returned (.int .i64 (cmpS a.toList b.toList)) ∧ w' = w := by
  have HR : Hid (cmpS a.toList b.toList = if Op.bytesLess a.toList b.toList then -1 else if Op.bytesLess b.toList a.toList then 1 else 0) := rfl
  rcases less_tri a.toList b.toList with ⟨h1, h2, h3⟩ | ⟨h1, h2, h3⟩ | ⟨h1, h2, h3⟩
  · rw [h1, if_pos rfl] at HR
    go_enter Tryd.func59, Tryd.ntmps59
    go_wp2_with fail
    refine (isNaN_any a w).mono ?_
    rintro r w1 ⟨rfl, rfl⟩
    go_wp2_with fail
    refine (isNaN_any b w1).mono ?_
    rintro r w2 ⟨rfl, rfl⟩
    go_wp2_with fail
    go_ret
    exact ⟨by rw [HR.out]; rfl, rfl⟩
  · replace h2 : (a.toList == b.toList) = true := by simp [h2]
    rw [h1, h3] at HR
    go_enter Tryd.func59, Tryd.ntmps59
    go_wp2_with fail
    refine (isNaN_any a w).mono ?_
    rintro r w1 ⟨rfl, rfl⟩
    go_wp2_with fail
    refine (isNaN_any b w1).mono ?_
    rintro r w2 ⟨rfl, rfl⟩
    go_wp2_with fail
    go_ret
    exact ⟨by rw [HR.out]; rfl, rfl⟩
  · rw [h1, h3] at HR
    go_enter Tryd.func59, Tryd.ntmps59
    go_wp2_with fail
    refine (isNaN_any a w).mono ?_
    rintro r w1 ⟨rfl, rfl⟩
    go_wp2_with fail
    refine (isNaN_any b w1).mono ?_
    rintro r w2 ⟨rfl, rfl⟩
    go_wp2_with fail
    go_ret
    exact ⟨by rw [HR.out]; rfl, rfl⟩

def cmpL : List (List UInt8) → List (List UInt8) → Int
  | [], [] => 0
  | [], _ :: _ => -1
  | _ :: _, [] => 1
  | x :: xs, y :: ys => if x = y then cmpL xs ys else cmpS x y
theorem cmpS_self (x : List UInt8) : cmpS x x = 0 := by
  unfold cmpS
  rcases less_tri x x with ⟨h1, h2, h3⟩ | ⟨h1, h2, h3⟩ | ⟨h1, h2, h3⟩
  · simp at h2
  · simp [h1]
  · simp at h2
theorem cmpS_ne (x y : List UInt8) (h : x ≠ y) : cmpS x y ≠ 0 ∧ (cmpS x y < 0 ↔ Op.bytesLess x y = true) := by
  unfold cmpS
  rcases less_tri x y with ⟨h1, h2, h3⟩ | ⟨h1, h2, h3⟩ | ⟨h1, h2, h3⟩
  · simp [h1]
  · exact absurd h2 h
  · simp [h1, h3]
theorem cmpL_ahead : ∀ (a b : List (List UInt8)), decide (cmpL a b < 0) = aheadB a b
  | [], [] => rfl
  | [], _ :: _ => rfl
  | _ :: _, [] => rfl
  | x :: xs, y :: ys => by
    unfold cmpL aheadB
    by_cases h : x = y
    · rw [if_pos h, if_pos h]; exact cmpL_ahead xs ys
    · rw [if_neg h, if_neg h]
      have := (cmpS_ne x y h).2
      cases hb : Op.bytesLess x y
      · rw [hb] at this; simp; simp at this; exact this
      · rw [hb] at this; simp; exact this.2 rfl
theorem cmpL_step (a b : List (List UInt8)) (k : Nat) (ha : k < a.length) (hb : k < b.length) : cmpL (a.drop k) (b.drop k) = if a[k] = b[k] then cmpL (a.drop (k + 1)) (b.drop (k + 1)) else cmpS a[k] b[k] := by
  rw [List.drop_eq_getElem_cons ha, List.drop_eq_getElem_cons hb, cmpL]

/-- a row of strings -/
def StrsAt (w : World) (g : Nat) (a : List (List UInt8)) : Prop := ∀ (k : Nat) (h : k < a.length), w.cell? ⟨g, k, none⟩ = some (mkS a[k])

set_option maxRecDepth 100000 in
set_option maxHeartbeats 4000000 in
theorem Compare_any (a b : List (List UInt8)) (ga gb : Nat) (w : World) (ha : StrsAt w ga a) (hb : StrsAt w gb b) (hla : a.length ≤ 100000000) (hlb : b.length ≤ 100000000) :
    Calls Tryd.prog 54 #[.slice (some ⟨ga, 0, none⟩) a.length a.length, .slice (some ⟨gb, 0, none⟩) b.length b.length] w fun r w' => r = .returned (.int .i64 (cmpL a b)) ∧ w' = w := by
  have HA := hide ha
  have HB := hide hb
  clear ha hb
  go_enter Tryd.func54, Tryd.ntmps54
  go_wp2_with fail
  go_loopw [11] (fun i wr => ∃ k : Nat, k ≤ a.length ∧ k ≤ b.length ∧ i = .int .i64 k ∧ wr = w ∧ Hid (cmpL a b = cmpL (a.drop k) (b.drop k))) (fun i _ => a.length - (intOf i).toNat)
  case atStart => exact ⟨0, by omega, by omega, rfl, rfl, rfl⟩
  case round =>
    obtain ⟨k, hk, hkb, rfl, rfl, hc⟩ := hrel
    by_cases h1 : k < a.length
    · by_cases h2 : k < b.length
      · have c1 := HA.out k h1
        have c2 := HB.out k h2
        unfold mkS at c1 c2
        have hst := cmpL_step a b k h1 h2
        have hcmp := cmp_any ⟨a[k].toArray⟩ ⟨b[k].toArray⟩ wr
        rw [ByteArray.toList_mk, ByteArray.toList_mk] at hcmp
        have HCMP := hide hcmp
        clear hcmp
        by_cases he : a[k] = b[k]
        · rw [if_pos he] at hst
          have HST := hide hst
          rw [he, cmpS_self] at HCMP
          rw [he] at c1
          clear hst he
          go_wp2_with fail
          refine HCMP.out.mono ?_
          rintro r w1 ⟨rfl, hw1⟩
          subst hw1
          go_wp2_with fail
          go_roundw
          case rel => exact ⟨k + 1, by omega, by omega, by go_num, trivial, by rw [hc.out, HST.out]; exact hide rfl⟩
          case measure => simp [intOf]; omega
        · rw [if_neg he] at hst
          rw [← hc.out] at hst
          have HST := hide hst
          have hz := (cmpS_ne _ _ he).1
          clear hst he
          generalize cmpS a[k] b[k] = z at *
          have hz2 : (z == 0) = false := by simpa using hz
          clear hz
          go_wp2_with fail
          refine HCMP.out.mono ?_
          rintro r w1 ⟨rfl, hw1⟩
          subst hw1
          go_wp2_with fail
          go_ret
          exact ⟨by rw [HST.out]; rfl, rfl⟩
      · have hst : cmpL a b = 1 := by
          rw [hc.out, List.drop_eq_getElem_cons h1, List.drop_of_length_le (show b.length ≤ k by omega)]; rfl
        have HST := hide hst
        have c1 := HA.out k h1
        unfold mkS at c1
        clear hst
        go_wp2_with fail
        go_ret
        exact ⟨by rw [HST.out]; rfl, rfl⟩
    · by_cases h2 : a.length < b.length
      · have hst : cmpL a b = -1 := by
          rw [hc.out, List.drop_of_length_le (show a.length ≤ k by omega), List.drop_eq_getElem_cons (show k < b.length by omega)]; rfl
        have HST := hide hst
        clear hst
        go_wp2_with fail
        go_ret
        exact ⟨by rw [HST.out]; rfl, rfl⟩
      · have hst : cmpL a b = 0 := by
          rw [hc.out, List.drop_of_length_le (show a.length ≤ k by omega), List.drop_of_length_le (show b.length ≤ k by omega)]; rfl
        have HST := hide hst
        clear hst
        go_wp2_with fail
        go_ret
        exact ⟨by rw [HST.out]; rfl, rfl⟩

theorem strs_new (w : World) (a : List (List UInt8)) : StrsAt (w.alloc (.cells (a.map mkS).toArray 9)) w.heap.size a := by
  intro k h
  rw [cell_of_row _ _ _ _ _ _ (heap_alloc_new w _)]
  simp [h]

set_option maxRecDepth 100000 in
set_option maxHeartbeats 4000000 in
theorem comparePaths_any (a b : ByteArray) (m : Int) (w : World) (hm : w.cell? ⟨0, 0, none⟩ = some (.int .i64 m)) (ha : a.size ≤ 50000000) (hb : b.size ≤ 50000000) :
    Calls Tryd.prog 48 #[.string a, .string b] w fun r w' => r = .returned (.int .i64 (cmpL (splitS a.data.toList) (splitS b.data.toList))) ∧ Kept NoB w w' := by
  have h1 := Split_any a m w (by omega) hm
  have h2 : Hid (∀ wx, Kept NoB w wx → Calls Tryd.prog 55 #[.string b, .string ⟨#[47]⟩] wx fun e w' => e = .returned (.slice (some ⟨wx.heap.size, 0, none⟩) (splitS b.data.toList).length (splitS b.data.toList).length) ∧ w' = wx.alloc (.cells ((splitS b.data.toList).map mkS).toArray 9)) := fun wx hx => Split_any b m wx (by omega) (hx.cellN hm)
  have hla := splitS_len a.data.toList
  have hlb := splitS_len b.data.toList
  rw [← Lib.size_eq] at hla hlb
  generalize splitS a.data.toList = A at *
  generalize splitS b.data.toList = B at *
  have HH := hide h1
  clear h1 hm
  go_enter Tryd.func48, Tryd.ntmps48
  go_wp2_with fail
  refine HH.out.mono ?_
  rintro r w1 ⟨rfl, hw1⟩
  have hk1 : Hid (Kept NoB w w1) := by unfold Hid; rw [hw1]; exact (Kept.refl NoB w).alloc _
  have hA : Hid (StrsAt w1 w.heap.size A) := by unfold Hid; rw [hw1]; exact strs_new w A
  clear hw1 HH
  generalize w.heap.size = ga at *
  go_wp2_with fail
  refine (h2.out w1 hk1.out).mono ?_
  rintro r w2 ⟨rfl, hw2⟩
  have hk2 : Hid (Kept NoB w w2) := by unfold Hid; rw [hw2]; exact hk1.out.alloc _
  have hA2 : Hid (StrsAt w2 ga A) := fun k h => by rw [hw2]; exact ((Kept.refl NoB w1).alloc _).cellN (hA.out k h)
  have hB : Hid (StrsAt w2 w1.heap.size B) := by unfold Hid; rw [hw2]; exact strs_new w1 B
  clear hw2 h2 hA hk1
  generalize w1.heap.size = gb at *
  go_wp2_with fail
  refine (Compare_any A B ga gb w2 hA2.out hB.out (by omega) (by omega)).mono ?_
  rintro r w3 ⟨rfl, hw3⟩
  subst hw3
  go_wp2_with fail
  go_ret
  exact ⟨rfl, hk2.out⟩
end Go.Proofs.YtidioioldlmciaaDoor
