import Derived.Test.YtidioioldlmciaaDoorChecked
import Derived.Test.YtidioioldlmciaaDoorBase
import Derived.Deep.QuietTactic
import Derived.BigQuiet
namespace Go.Proofs.YtidioioldlmciaaDoor
open Go.RowKit

theorem info5 : (Tryd.prog.info? 5).map (fun i => (i.zero, i.size, i.bytes)) = some (some (.int .u8 0), 1, 1) := by kernel_rfl
theorem own : ownKnob Tryd.prog.godebug = none := by kernel_rfl

def room77 : List Value := [.int .u8 77, .int .u8 77, .int .u8 77, .int .u8 77]

def fill77 (k : Nat) : List Value := List.replicate k (.int .u8 77) ++ List.replicate (4 - k) (.int .u8 0)

theorem fill77_step (s : ByteArray) (k : Nat) (hk : k < 4) : (byteCells s ++ fill77 k).toArray.setIfInBounds (s.size + k) (.int .u8 77) = (byteCells s ++ fill77 (k + 1)).toArray := by
  rw [← byteCells_length s]
  simp only [List.setIfInBounds_toArray]
  congr 1
  rw [List.set_append_right _ _ (by omega)]
  congr 1
  have : k = 0 ∨ k = 1 ∨ k = 2 ∨ k = 3 := by omega
  rcases this with rfl | rfl | rfl | rfl <;> simp [fill77, List.replicate]

theorem mk32 (n : Nat) (hn : n ≤ 100000000) (u : World) : (Instr.makeSlice 32 (.int .i64 (n : Int)) (.int .i64 (n : Int))).run Tryd.prog u =
      .ok (.slice (some ⟨u.heap.size, 0, none⟩) n n) (u.alloc (.cells (madeCells #[.int .u8 0] n) 5)) := by
  obtain ⟨i0, hi, hz0, hz1, hz2⟩ := info_parts info5
  have h := run_make (P := Tryd.prog) u 32 5 i0 (.int .u8 0) Tryd.underlying32 hi hz0 .i64 .i64 (n : Int) (n : Int) (by omega) (Int.le_refl _) (by rw [hz2]; omega) (by omega)
  simpa [hz1, Value.cells] using h

set_option maxRecDepth 100000 in
set_option maxHeartbeats 400000 in
theorem pick20 (c : Int) (w : World) (h1 : -9223372036854775808 ≤ c) (h2 : c ≤ 9223372036854775807) :
    Calls Tryd.prog 4 #[.int .i64 c, .int .i64 20] w fun e w' => ∃ k : Nat, k < 20 ∧ e = .returned (.int .i64 k) ∧ w' = w := by
  by_cases h : c < 0
  · go_enter Tryd.func4, Tryd.ntmps4
    go_wp2
    go_ret
    obtain ⟨k, hk⟩ := Int.eq_ofNat_of_zero_le (show 0 ≤ (-(c+1)) by omega)
    refine ⟨k % 20, Nat.mod_lt _ (by decide), ?_, rfl⟩
    show Ending.returned (.int .i64 (-((c+1).tmod 20))) = _
    rw [← Int.neg_tmod, hk]; rfl
  · go_enter Tryd.func4, Tryd.ntmps4
    go_wp2
    go_ret
    obtain ⟨k, rfl⟩ := Int.eq_ofNat_of_zero_le (show 0 ≤ c by omega)
    refine ⟨k % 20, Nat.mod_lt _ (by decide), ?_, rfl⟩
    rfl

set_option maxRecDepth 100000 in
set_option maxHeartbeats 400000 in
theorem lent_any (s : ByteArray) (w : World) (hs : s.size ≤ 2000000) :
    Calls Tryd.prog 11 #[.string s] w fun e w' => e = .returned (.slice (some ⟨w.heap.size, 0, none⟩) s.size (s.size + 4)) ∧
      w'.heap[w.heap.size]? = some (.cells (byteCells s ++ room77).toArray 5 (0, 0)) ∧ Kept NoB w w' := by
  have hmk := fun u => mk32 (s.size + 4) (by omega) u
  have ec : ((s.size + 4 : Nat) : Int) = (s.size : Int) + 4 := by omega
  rw [ec] at hmk
  have hz : (madeCells #[.int .u8 0] (s.size + 4)) = (List.replicate (s.size + 4) (Value.int .u8 0)).toArray := by
    rw [← toList_madeCells_one]
  have hg0 : (w.alloc (.cells (madeCells #[.int .u8 0] (s.size + 4)) 5)).heap[w.heap.size]? = some (.cells (List.replicate (s.size + 4) (Value.int .u8 0)).toArray 5 (0, 0)) := by
    rw [hz]; exact heap_alloc_new w _
  have HG := hide hg0
  clear hg0 hz ec
  go_enter Tryd.func11, Tryd.ntmps11
  go_wp2_with ((refine wpList_copy2 _ rfl (.tmp 9) (.tmp 10) 32 9 rfl 5 (.int .u8 0) 1 1 Tryd.underlying32 info5 w.heap.size (s.size + 4) (s.size + 4) (List.replicate (s.size + 4) (.int .u8 0)) 5 rfl HG.out (.string s) s.size (byteCells s) rfl (Src.ofString _ Tryd.underlying9 s) (by omega) (by rw [byteCells_length, List.length_replicate]; omega) ?_); intro w1 hg1 hk1)
  go_loopw [4] (fun i wr => ∃ k : Nat, k ≤ 4 ∧ i = .int .i64 k ∧ Hid (wr.heap[w.heap.size]? = some (.cells (byteCells s ++ fill77 k).toArray 5 (0, 0))) ∧ Kept NoB w wr) (fun i _ => 4 - (intOf i).toNat)
  case atStart =>
    refine ⟨0, by omega, rfl, ?_, ?_⟩
    · have h := hg1.out
      rw [byteCells_length] at h
      exact hide (by rw [h]; congr 2; simp [fill77, List.drop_replicate])
    · exact ((Kept.refl NoB w).alloc _).grown hk1 (fun k hk hlt => by cases hk; exact absurd hlt (Nat.lt_irrefl _))
  case round =>
    obtain ⟨k, hk, rfl, hrow, hkept⟩ := hrel
    by_cases hlt : k < 4
    · have hc : wr.cell? ⟨w.heap.size, s.size + k, none⟩ = some (.int .u8 0) := by
        rw [cell_of_row _ _ _ _ _ _ hrow.out]
        simp [fill77, byteCells_length, List.getElem?_append_right, List.getElem?_replicate]
        omega
      have hf : wr.frozen? ⟨w.heap.size, s.size + k, none⟩ = false := frozen_of_row _ _ _ _ _ hrow.out
      go_wp2
      go_roundw
      case rel =>
        refine ⟨k + 1, by omega, by go_num, ?_, hkept.setCell _ (fun h => absurd h (Nat.lt_irrefl _)) _⟩
        refine hide ?_
        rw [heap_setCell_same _ _ _ _ _ _ hrow.out]
        congr 2
        exact fill77_step s k hlt
      case measure => simp [intOf]; omega
    · obtain rfl : k = 4 := by omega
      go_wp2
      go_ret
      exact ⟨rfl, hrow.out, hkept⟩

def over99 (s : ByteArray) (k : Nat) : List Value := List.replicate k (.int .u8 99) ++ (byteCells s ++ room77).drop k

theorem over99_len (s : ByteArray) (k : Nat) (hk : k ≤ s.size + 4) : (over99 s k).length = s.size + 4 := by
  simp [over99, byteCells_length, room77]; omega

theorem over99_at (s : ByteArray) (k : Nat) : (over99 s k)[k]? = (byteCells s ++ room77)[k]? := by
  unfold over99
  rw [List.getElem?_append_right (by simp)]
  simp

theorem over99_step (s : ByteArray) (k : Nat) (hk : k < s.size + 4) : (over99 s k).toArray.setIfInBounds k (.int .u8 99) = (over99 s (k + 1)).toArray := by
  simp only [List.setIfInBounds_toArray]
  congr 1
  unfold over99
  rw [List.set_append_right _ _ (by simp)]
  have hl : k < (byteCells s ++ room77).length := by simp [byteCells_length, room77]; omega
  rw [List.drop_eq_getElem_cons hl]
  rw [List.length_replicate, Nat.sub_self, List.set_cons_zero, List.replicate_succ', List.append_assoc]
  rfl

theorem byteCells_at (s : ByteArray) (k : Nat) (hk : k < s.size) : (byteCells s ++ room77)[k]? = some (.int .u8 (s[k].toNat)) := by
  rw [List.getElem?_append_left (by rw [byteCells_length]; exact hk)]
  unfold byteCells
  rw [List.getElem?_map, List.getElem?_eq_getElem (by simpa using hk)]
  rfl

theorem room77_at (s : ByteArray) (k : Nat) (hk : s.size ≤ k) (hk2 : k < s.size + 4) : (byteCells s ++ room77)[k]? = some (.int .u8 77) := by
  rw [List.getElem?_append_right (by rw [byteCells_length]; exact hk), byteCells_length]
  have : k - s.size = 0 ∨ k - s.size = 1 ∨ k - s.size = 2 ∨ k - s.size = 3 := by omega
  rcases this with h | h | h | h <;> simp [h, room77]

set_option maxRecDepth 100000 in
set_option maxHeartbeats 4000000 in
theorem stays_any (s : ByteArray) (g : Nat) (w : World) (hs : s.size ≤ 2000000) (hg : Hid (w.heap[g]? = some (.cells (byteCells s ++ room77).toArray 5 (0, 0)))) :
    Calls Tryd.prog 15 #[.slice (some ⟨g, 0, none⟩) s.size (s.size + 4), .string s] w fun e w' => e = .returned (.bool true) ∧ Kept (fun k => k = g) w w' := by
  go_enter Tryd.func15, Tryd.ntmps15
  go_wp2
  go_loopw [6, 7] (fun b i wr => ∃ k : Nat, k ≤ s.size + 4 ∧ b = .bool true ∧ i = .int .i64 k ∧ Hid (wr.heap[g]? = some (.cells (over99 s k).toArray 5 (0, 0))) ∧ Kept (fun k => k = g) w wr) (fun _ i _ => s.size + 4 - (intOf i).toNat)
  case atStart => exact ⟨0, by omega, rfl, rfl, by simpa [over99] using hg, Kept.refl _ _⟩
  case round =>
    obtain ⟨k, hk, rfl, rfl, hrow, hkept⟩ := hrel
    have hf : wr.frozen? ⟨g, k, none⟩ = false := frozen_of_row _ _ _ _ _ hrow.out
    by_cases hlt : k < s.size
    · have hc : wr.cell? ⟨g, k, none⟩ = some (.int .u8 (s[k].toNat)) := by
        rw [cell_of_row _ _ _ _ _ _ hrow.out]
        simp only [List.getElem?_toArray]
        rw [over99_at, byteCells_at s k hlt]
      have hne : (((s[k].toNat : Int)) != ((s[k].toNat : Int))) = false := by simp
      have hd2 : decide (s.size ≤ k) = false := by simp; omega
      go_wp2
      go_quiet (fail)
      go_wp2
      go_roundw
      case rel => exact ⟨k + 1, by omega, rfl, by go_num, hide ((heap_setCell_same _ g k _ 5 _ (show (wr.drewN nq).heap[g]? = _ from hrow.out)).trans (by rw [over99_step s k (by omega)])), (hkept.drewN nq).setCell _ (fun _ => rfl) _⟩
      case measure => simp [intOf]; omega
    · by_cases hlt2 : k < s.size + 4
      · have hc : wr.cell? ⟨g, k, none⟩ = some (.int .u8 77) := by
          rw [cell_of_row _ _ _ _ _ _ hrow.out]
          simp only [List.getElem?_toArray]
          rw [over99_at, room77_at s k (by omega) hlt2]
        have hd : decide (k < s.size) = false := by simp; omega
        have hd2 : decide (s.size ≤ k) = true := by simp; omega
        go_wp2
        go_quiet (fail)
        go_wp2
        go_roundw
        case rel => exact ⟨k + 1, by omega, rfl, by go_num, hide ((heap_setCell_same _ g k _ 5 _ (show (wr.drewN nq).heap[g]? = _ from hrow.out)).trans (by rw [over99_step s k (by omega)])), (hkept.drewN nq).setCell _ (fun _ => rfl) _⟩
        case measure => simp [intOf]; omega
      · obtain rfl : k = s.size + 4 := by omega
        go_wp2
        go_ret
        exact ⟨rfl, hkept⟩
end Go.Proofs.YtidioioldlmciaaDoor
