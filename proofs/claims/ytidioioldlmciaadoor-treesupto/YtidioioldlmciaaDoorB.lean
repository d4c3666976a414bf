import Derived.Test.YtidioioldlmciaaDoorA
namespace Go.Proofs.YtidioioldlmciaaDoor
open Go.RowKit
def byteL (l : List UInt8) : List Value := l.map fun b => Value.int .u8 b.toNat
def digitB (v j : Nat) : UInt8 := UInt8.ofNat (v / 256 ^ j % 256)
/-- the first k of the n bytes of a number, the high one first -/
def numTo (v n k : Nat) : List UInt8 := (List.range k).map fun i => digitB v (n - 1 - i)
def numB (v n : Nat) : List UInt8 := numTo v n n
def numOf (l : List UInt8) : Nat := l.foldl (fun a b => 256 * a + b.toNat) 0
def zeros (n : Nat) : List Value := List.replicate n (.int .u8 0)

theorem numTo_succ (v n k : Nat) : numTo v n (k + 1) = numTo v n k ++ [digitB v (n - 1 - k)] := by
  simp [numTo, List.range_succ]
theorem numTo_len (v n k : Nat) : (numTo v n k).length = k := by simp [numTo]
theorem numB_len (v n : Nat) : (numB v n).length = n := numTo_len v n n
theorem byteL_len (l : List UInt8) : (byteL l).length = l.length := by simp [byteL]
theorem byteL_append (a b : List UInt8) : byteL (a ++ b) = byteL a ++ byteL b := by simp [byteL]
theorem byteCells_eq (s : ByteArray) : byteCells s = byteL s.data.toList := rfl
theorem byteL_at (l : List UInt8) (k : Nat) (hk : k < l.length) : (byteL l)[k]? = some (.int .u8 (l[k].toNat)) := by
  simp [byteL, hk]
theorem byteL_one (l : List UInt8) : ∀ u ∈ byteL l, u.oneCell' = true := by
  intro u hu
  obtain ⟨_, _, rfl⟩ := List.mem_map.1 hu
  rfl

theorem two_pow_eight (j : Nat) : 2 ^ (8 * j) = 256 ^ j := by rw [Nat.pow_mul]
theorem digit_int (v j : Nat) : ((v : Int) / 2 ^ (8 * j) % 256) = ((digitB v j).toNat : Int) := by
  unfold digitB
  rw [UInt8.toNat_ofNat', ← two_pow_eight]
  have h2 : (2 : Int) ^ (8 * j) = ((2 ^ (8 * j) : Nat) : Int) := by simp
  rw [h2]
  simp only [Nat.reducePow, Nat.mod_mod]
  omega

theorem numRow_step (v n k : Nat) (hk : k < n) (x : Value) (hx : x = .int .u8 ((digitB v (n - 1 - k)).toNat)) :
    (byteL (numTo v n k) ++ zeros (n - k)).toArray.setIfInBounds k x = (byteL (numTo v n (k + 1)) ++ zeros (n - (k + 1))).toArray := by
  subst hx
  simp only [List.setIfInBounds_toArray]
  congr 1
  rw [List.set_append_right _ _ (by rw [byteL_len, numTo_len]; omega), byteL_len, numTo_len, Nat.sub_self, numTo_succ, byteL_append, List.append_assoc]
  congr 1
  have e : zeros (n - k) = Value.int .u8 0 :: zeros (n - (k + 1)) := by
    unfold zeros
    rw [show n - k = (n - (k + 1)) + 1 by omega, List.replicate_succ]
  rw [e]
  rfl

set_option maxRecDepth 100000 in
set_option maxHeartbeats 4000000 in
theorem U_any (v n : Nat) (w : World) (_hv : v < 1099511627776) (hn : 1 ≤ n) (hn8 : n ≤ 5) :
    Calls Tryd.prog 20 #[.int .i64 v, .int .i64 n] w fun e w' => e = .returned (.string ⟨(numB v n).toArray⟩) ∧ Kept NoB w w' := by
  have hmk := fun u => mk32 n (by omega) u
  go_enter Tryd.func20, Tryd.ntmps20
  go_wp2
  go_loopw [6] (fun i wr => ∃ k : Nat, k ≤ n ∧ i = .int .i64 k ∧ Hid (wr.heap[w.heap.size]? = some (.cells (byteL (numTo v n k) ++ zeros (n - k)).toArray 5 (0, 0))) ∧ Kept NoB w wr) (fun i _ => n - (intOf i).toNat)
  case atStart =>
    refine ⟨0, by omega, rfl, hide ?_, (Kept.refl _ _).alloc _⟩
    have h := heap_alloc_new w (.cells (madeCells #[Value.int .u8 0] n) 5)
    rw [h]
    congr 2
    have e := toList_madeCells_one (.int .u8 0) n
    rw [show (byteL (numTo v n 0) ++ zeros (n - 0)) = List.replicate n (.int .u8 0) from rfl, ← e]
  case round =>
    obtain ⟨k, hk, rfl, hrow, hkept⟩ := hrel
    by_cases hlt : k < n
    · have hc : wr.cell? ⟨w.heap.size, k, none⟩ = some (.int .u8 0) := by
        rw [cell_of_row _ _ _ _ _ _ hrow.out]
        simp only [List.getElem?_toArray]
        rw [List.getElem?_append_right (by rw [byteL_len, numTo_len]; omega), byteL_len, numTo_len, Nat.sub_self]
        unfold zeros
        rw [List.getElem?_replicate, if_pos (by omega)]
      have hf : wr.frozen? ⟨w.heap.size, k, none⟩ = false := frozen_of_row _ _ _ _ _ hrow.out
      go_wp2
      go_roundw
      case rel =>
        refine ⟨k + 1, by omega, by go_num, hide ?_, hkept.setCell _ (fun h => absurd h (Nat.lt_irrefl _)) _⟩
        rw [heap_setCell_same _ _ _ _ _ _ hrow.out, numRow_step v n k hlt _ (by rw [digit_int])]
      case measure => simp [intOf]; omega
    · obtain rfl : k = n := by omega
      have hcv := run_convert_bytes_back (P := Tryd.prog) wr 32 9 5 ⟨w.heap.size, 0, none⟩ k (numB v k) Tryd.underlying32 Tryd.underlying5 Tryd.underlying9 (fun j hj => by
        rw [Addr.add_lit, Nat.zero_add, cell_of_row _ _ _ _ _ _ hrow.out]
        simp only [List.getElem?_toArray]
        rw [List.getElem?_append_left (by rw [byteL_len]; exact hj)]
        exact byteL_at (numB v k) j hj)
      rw [numB_len] at hcv
      go_wp2
      go_ret
      exact ⟨rfl, hkept⟩

theorem numOf_snoc (l : List UInt8) (c : UInt8) : numOf (l ++ [c]) = 256 * numOf l + c.toNat := by simp [numOf]
theorem numOf_lt' (l : List UInt8) : ∀ a, l.foldl (fun a b => 256 * a + b.toNat) a < (a + 1) * 256 ^ l.length := by
  induction l with
  | nil => intro a; simp
  | cons c l ih =>
    intro a
    have h := ih (256 * a + c.toNat)
    have hc := c.toNat_lt
    simp only [List.foldl_cons, List.length_cons, Nat.pow_succ]
    refine Nat.lt_of_lt_of_le h ?_
    rw [← Nat.mul_assoc, Nat.mul_right_comm]
    exact Nat.mul_le_mul_right _ (by omega)
theorem numOf_lt (l : List UInt8) : numOf l < 256 ^ l.length := by simpa [numOf] using numOf_lt' l 0
theorem take_snoc (s : ByteArray) (k : Nat) (h : k < s.size) : s.data.toList.take (k + 1) = s.data.toList.take k ++ [s[k]] := by
  rw [List.take_succ_eq_append_getElem (by simpa using h)]; rfl
theorem ret_int {k : IntKind} {a b : Int} (h : a = b) : Ending.returned (.int k a) = .returned (.int k b) := by rw [h]

set_option maxRecDepth 100000 in
set_option maxHeartbeats 4000000 in
theorem N_any (b : ByteArray) (w : World) (hn8 : b.size ≤ 5) :
    Calls Tryd.prog 36 #[.string b, .int .i64 0, .int .i64 b.size] w fun e w' => e = .returned (.int .i64 (numOf b.data.toList)) ∧ w' = w := by
  go_enter Tryd.func36, Tryd.ntmps36
  go_wp2
  go_loop [7, 8] (fun v i => ∃ k : Nat, k ≤ b.size ∧ i = .int .i64 k ∧ v = .int .i64 (numOf (b.data.toList.take k))) (fun _ i => b.size - (intOf i).toNat)
  case atStart => exact ⟨0, by omega, rfl, rfl⟩
  case round =>
    obtain ⟨k, hk, rfl, rfl⟩ := hrel
    have hb : numOf (b.data.toList.take k) < 1099511627776 := by
      have h := numOf_lt (b.data.toList.take k)
      have h2 : (b.data.toList.take k).length ≤ 5 := Nat.le_trans (List.length_take_le _ _) (by omega)
      have h3 := Nat.pow_le_pow_right (show 0 < 256 by decide) h2
      omega
    by_cases hlt : k < b.size
    · have HS := hide (numOf_snoc (b.data.toList.take k) b[k])
      have HT := hide (take_snoc b k hlt)
      have hbd : b[k].toNat < 256 := b[k].toNat_lt
      go_wp2
      go_round
      case rel => exact ⟨k + 1, by omega, by go_num, by rw [HT.out, HS.out]; go_num⟩
      case measure => simp [intOf]; omega
    · go_wp2
      go_ret
      exact ⟨ret_int (by rw [List.take_of_length_le (by simp; omega)]), rfl⟩
end Go.Proofs.YtidioioldlmciaaDoor
