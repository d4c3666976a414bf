import Derived.Test.YtidioioldlmciaaDoorZa
namespace Go.Proofs.YtidioioldlmciaaDoor
open Go.RowKit

def nnum (n : Nat) (s : List UInt8 × Bool) : Nat × (List UInt8 × Bool) := (numOf (ntake n s).1, (ntake n s).2)
theorem ntake_le (n : Nat) (s : List UInt8 × Bool) : (ntake n s).1.length ≤ n := by
  unfold ntake
  split
  · exact Nat.zero_le _
  · simp only [List.length_take]; omega
theorem numOf_take (l : List UInt8) (k : Nat) (hk : k < l.length) : numOf (l.take (k + 1)) = 256 * numOf (l.take k) + l[k].toNat := by
  rw [List.take_succ_eq_append_getElem hk, numOf_snoc]
theorem numOf_small (l : List UInt8) (h : l.length ≤ 5) : numOf l < 1099511627776 := by
  have h1 := numOf_lt l
  have h2 : 256 ^ l.length ≤ 256 ^ 5 := Nat.pow_le_pow_right (by decide) h
  have h3 : (256 : Nat) ^ 5 = 1099511627776 := by decide
  omega

theorem or_i64 (a b : Nat) (hb : b < 256) (ha : a < 1099511627776) : bits .or .i64 ((a : Int) * 256) (b : Int) = ((256 * a + b : Nat) : Int) := by
  have e : (a : Int) * 256 = ((a * 256 : Nat) : Int) := by omega
  have h1 : (BitVec.ofInt 64 ((a * 256 : Nat) : Int)).toNat = a * 256 := by
    rw [BitVec.toNat_ofInt]
    omega
  have h2 : (BitVec.ofInt 64 (b : Int)).toNat = b := by
    rw [BitVec.toNat_ofInt]
    omega
  have h3 : a * 256 ||| b = a * 256 + b := by
    have := Nat.shiftLeft_add_eq_or_of_lt (i := 8) (b := b) (by omega) a
    rw [Nat.shiftLeft_eq] at this
    simpa using this.symm
  show IntKind.i64.wrap ((BitVec.ofInt 64 ((a : Int) * 256) ||| BitVec.ofInt 64 (b : Int)).toNat : Int) = _
  rw [e, BitVec.toNat_or, h1, h2, h3]
  show (if (true && decide (((a * 256 + b : Nat) : Int) % 2 ^ 64 ≥ 2 ^ 63)) = true then ((a * 256 + b : Nat) : Int) % 2 ^ 64 - 2 ^ 64 else ((a * 256 + b : Nat) : Int) % 2 ^ 64) = _
  rw [if_neg (by simp; omega)]
  omega

set_option maxRecDepth 100000 in
set_option maxHeartbeats 4000000 in
theorem number_any (n : Nat) (s : List UInt8 × Bool) {rb : Nat} {l : List UInt8} {d : En} {dv : Value} (w : World) (hn : n ≤ 5) (hl : l.length ≤ 100000000) (hr : ReadAt w rb l d dv s) :
    Calls Tryd.prog 42 #[.pointer (some ⟨rb, 0, none⟩), .int .i64 n] w fun e w' => e = .returned (.int .i64 (nnum n s).1) ∧ ReadAt w' rb l d dv (nnum n s).2 ∧ Kept (At rb) w w' := by
  have HT := hide (take_any n s w (by omega) hl hr)
  clear hr
  unfold nnum
  go_enter Tryd.func42, Tryd.ntmps42
  go_wp2_with fail
  refine HT.out.mono ?_
  rintro r w1 ⟨tv, rfl, hb, hrd, hk⟩
  have hlen : (ntake n s).1.length ≤ 5 := Nat.le_trans (ntake_le n s) hn
  have HO := hide (And.intro hrd hk)
  obtain ⟨L, hL⟩ : ∃ L, L = (ntake n s).1 := ⟨_, rfl⟩
  rw [← hL] at hb hlen
  have HL := hide hL
  obtain ⟨h1, ao, cap, rfl, hcap, hcc⟩ := hb
  have HCC := hide hcc
  clear h1 hcc hL HT hrd hk
  go_wp2_with fail
  go_loopw [5, 12] (fun a i wr => ∃ k : Nat, k ≤ L.length ∧ i = .int .i64 k ∧ a = .int .i64 (numOf (L.take k)) ∧ wr = w1) (fun _ i _ => L.length - (intOf i).toNat)
  case atStart => exact ⟨0, by omega, rfl, rfl, rfl⟩
  case round =>
    obtain ⟨k, hk, rfl, rfl, rfl⟩ := hrel
    by_cases hlt : k < L.length
    · obtain ⟨b, o, rfl, hc⟩ := HCC.out (by omega)
      have c0 := hc k (by omega)
      rw [byteL_at L k hlt] at c0
      have hsm := numOf_small (L.take k) (by simp; omega)
      have HST := hide (numOf_take L k hlt)
      have hby : L[k].toNat < 256 := L[k].toNat_lt
      have hsm2 := numOf_small (L.take (k + 1)) (by simp; omega)
      rw [HST.out] at hsm2
      clear hc
      generalize numOf (L.take k) = A at *
      generalize L[k].toNat = b8 at *
      have HOR := hide (or_i64 A b8 hby hsm)
      go_wp2_with fail
      go_roundw
      case rel => exact ⟨k + 1, by omega, by go_num, by rw [HOR.out, HST.out], trivial⟩
      case measure => simp [intOf]; omega
    · have HK : Hid (L.take k = L) := List.take_of_length_le (by omega)
      rw [HK.out]
      go_wp2_with fail
      go_ret
      rw [← HL.out]
      exact ⟨rfl, HO.out.1, HO.out.2⟩

def ntext (n : Nat) (s : List UInt8 × Bool) : List UInt8 × (List UInt8 × Bool) := ntake (nnum n s).1 (nnum n s).2
theorem nnum_small (n : Nat) (s : List UInt8 × Bool) (hn : n ≤ 5) : (nnum n s).1 < 1099511627776 := numOf_small _ (Nat.le_trans (ntake_le n s) hn)

/-- the bytes of a list as a string -/
theorem bytes_string (L : List UInt8) (v : Value) (w : World) (h : BytesAt w v L) : (convert 32 9 v).run Tryd.prog w = .ok (.string ⟨L.toArray⟩) w := by
  obtain ⟨h1, ao, cap, rfl, hcap, hcc⟩ := h
  rcases Nat.eq_zero_or_pos L.length with h0 | h0
  · have e : L = [] := List.eq_nil_of_length_eq_zero h0
    subst e
    cases ao with
    | none =>
      rw [run_convert_bytes_string w 32 9 5 none _ cap Tryd.underlying32 Tryd.underlying5 Tryd.underlying9]
      rfl
    | some a => exact run_convert_bytes_back (P := Tryd.prog) _ 32 9 5 a cap [] Tryd.underlying32 Tryd.underlying5 Tryd.underlying9 (fun j hj => absurd hj (by simp))
  · obtain ⟨b, o, rfl, hc⟩ := hcc h0
    refine run_convert_bytes_back (P := Tryd.prog) _ 32 9 5 ⟨b, o, none⟩ cap L Tryd.underlying32 Tryd.underlying5 Tryd.underlying9 (fun j hj => ?_)
    rw [Addr.add_lit, hc j (by omega)]
    exact byteL_at L j hj

set_option maxRecDepth 100000 in
set_option maxHeartbeats 4000000 in
theorem words_any (n : Nat) (s : List UInt8 × Bool) {rb : Nat} {l : List UInt8} {d : En} {dv : Value} (w : World) (hn : n ≤ 5) (hl : l.length ≤ 100000000) (hr : ReadAt w rb l d dv s) :
    Calls Tryd.prog 43 #[.pointer (some ⟨rb, 0, none⟩), .int .i64 n] w fun e w' => e = .returned (.string ⟨(ntext n s).1.toArray⟩) ∧ ReadAt w' rb l d dv (ntext n s).2 ∧ Kept (At rb) w w' := by
  have HN := hide (number_any n s w hn hl hr)
  clear hr
  have hsm : (nnum n s).1 ≤ 1099511627776 := Nat.le_of_lt (nnum_small n s hn)
  unfold ntext
  generalize nnum n s = S at *
  obtain ⟨x, s2⟩ := S
  go_enter Tryd.func43, Tryd.ntmps43
  go_wp2_with fail
  refine HN.out.mono ?_
  rintro r w1 ⟨rfl, hr1, hk1⟩
  have HK1 := hide hk1
  have HT := hide (take_any x s2 w1 hsm hl hr1)
  clear hr1 hk1 HN
  go_wp2_with fail
  refine HT.out.mono ?_
  rintro r w2 ⟨tv, rfl, hb, hrd, hk⟩
  have HO := hide (And.intro hrd hk)
  have hcv := bytes_string _ tv w2 hb
  obtain ⟨ao, cap, rfl, _⟩ := CellsAt.shape hb
  clear hb HT hrd hk
  go_wp2_with fail
  go_ret
  exact ⟨rfl, HO.out.1, HK1.out.trans HO.out.2⟩
end Go.Proofs.YtidioioldlmciaaDoor
