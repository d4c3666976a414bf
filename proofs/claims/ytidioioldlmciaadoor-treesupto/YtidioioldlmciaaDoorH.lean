import Derived.Test.YtidioioldlmciaaDoorG
namespace Go.Proofs.YtidioioldlmciaaDoor
open Go.RowKit

def At (b : Nat) : Nat → Prop := fun k => k = b

/-- the reference's reader: what is left, and whether there were too few bytes -/
def rtake (n : Nat) (s : List UInt8 × Bool) : List UInt8 × (List UInt8 × Bool) := if s.1.length < n then ([], (s.1, true)) else (s.1.take n, (s.1.drop n, s.2))
def rnum (n : Nat) (s : List UInt8 × Bool) : Nat × (List UInt8 × Bool) := (if (rtake n s).2.2 = true then 0 else numOf (rtake n s).1, (rtake n s).2)
def rBlock (s : List UInt8 × Bool) : Obj := .cells #[.string ⟨s.1.toArray⟩, .bool s.2] 68 (0, 0)

theorem mk_size (l : List UInt8) : (⟨l.toArray⟩ : ByteArray).size = l.length := by simp [ByteArray.size]
theorem mk_extract (l : List UInt8) (a b : Nat) : (⟨l.toArray⟩ : ByteArray).extract a b = ⟨((l.drop a).take (b - a)).toArray⟩ := ByteArray.extract_mk l a b

theorem row2 {w : World} {b : Nat} {x y : Value} {t : TypeId} (h : w.heap[b]? = some (.cells #[x, y] t (0, 0))) :
    w.cell? ⟨b, 0, none⟩ = some x ∧ w.cell? ⟨b, 1, none⟩ = some y ∧ ∀ j, w.frozen? ⟨b, j, none⟩ = false :=
  ⟨by rw [cell_of_row _ _ _ _ _ _ h]; rfl, by rw [cell_of_row _ _ _ _ _ _ h]; rfl, fun j => frozen_of_row _ _ j _ _ h⟩

set_option maxRecDepth 100000 in
set_option maxHeartbeats 4000000 in
theorem takeR_any (n : Nat) (s : List UInt8 × Bool) (rb : Nat) (w : World) (hs : s.1.length ≤ 100000000) (hn : n ≤ 1099511627776) (hr : w.heap[rb]? = some (rBlock s)) :
    Calls Tryd.prog 24 #[.pointer (some ⟨rb, 0, none⟩), .int .i64 n] w fun e w' => e = .returned (.string ⟨(rtake n s).1.toArray⟩) ∧ w'.heap[rb]? = some (rBlock (rtake n s).2) ∧ Kept (At rb) w w' := by
  obtain ⟨l, b⟩ := s
  obtain ⟨c0, c1, c2⟩ := row2 hr
  have HR := hide hr
  clear hr
  simp only at hs c0 c1
  have hsz : (⟨l.toArray⟩ : ByteArray).size = l.length := mk_size l
  by_cases h : l.length < n
  · have HT : Hid (rtake n (l, b) = ([], (l, true))) := by unfold Hid rtake; rw [if_pos h]
    go_enter Tryd.func24, Tryd.ntmps24
    go_wp2
    go_ret
    rw [HT.out]
    refine ⟨rfl, ?_, (Kept.refl (At rb) w).setCell ⟨rb, 1, none⟩ (fun _ => rfl) _⟩
    exact heap_setCell_same _ _ _ _ _ _ HR.out
  · have HT : Hid (rtake n (l, b) = (l.take n, (l.drop n, b))) := by unfold Hid rtake; rw [if_neg h]
    have hx0 : (⟨l.toArray⟩ : ByteArray).extract 0 n = ⟨(l.take n).toArray⟩ := by rw [mk_extract]; simp
    have hx1 : (⟨l.toArray⟩ : ByteArray).extract n l.length = ⟨(l.drop n).toArray⟩ := by
      rw [mk_extract, List.take_of_length_le (by simp)]
    have HX0 := hide hx0
    have HX1 := hide hx1
    clear hx0 hx1
    go_enter Tryd.func24, Tryd.ntmps24
    go_wp2
    go_ret
    rw [HT.out]
    refine ⟨?_, ?_, (Kept.refl (At rb) w).setCell ⟨rb, 0, none⟩ (fun _ => rfl) _⟩
    · rw [← HX0.out]; rfl
    · rw [heap_setCell_same _ _ _ _ _ _ HR.out, HX1.out]; rfl

set_option maxRecDepth 100000 in
set_option maxHeartbeats 4000000 in
theorem numR_any (n : Nat) (s : List UInt8 × Bool) (rb : Nat) (w : World) (hs : s.1.length ≤ 100000000) (hn : n ≤ 5) (hr : w.heap[rb]? = some (rBlock s)) :
    Calls Tryd.prog 23 #[.pointer (some ⟨rb, 0, none⟩), .int .i64 n] w fun e w' => e = .returned (.int .i64 (rnum n s).1) ∧ w'.heap[rb]? = some (rBlock (rnum n s).2) ∧ Kept (At rb) w w' := by
  have HR := hide hr
  clear hr
  go_enter Tryd.func23, Tryd.ntmps23
  go_wp2_with fail
  refine (takeR_any n s rb w hs (by omega) HR.out).mono ?_
  rintro r w1 ⟨rfl, hr1, hk1⟩
  obtain ⟨c0, c1, c2⟩ := row2 hr1
  have HR1 := hide hr1
  clear hr1
  cases hb : (rtake n s).2.2 with
  | true =>
    have HN : Hid (rnum n s = (0, (rtake n s).2)) := by unfold Hid rnum; rw [hb]; rfl
    go_wp2_with fail
    go_ret
    rw [HN.out]
    exact ⟨rfl, HR1.out, hk1⟩
  | false =>
    have HN : Hid (rnum n s = (numOf (rtake n s).1, (rtake n s).2)) := by unfold Hid rnum; rw [hb]; rfl
    have hlen : (rtake n s).1.length = n := by
      unfold rtake at hb ⊢
      split at hb
      · cases hb
      · rename_i h; rw [if_neg h]; simp; omega
    have hsz : (⟨(rtake n s).1.toArray⟩ : ByteArray).size = n := by rw [mk_size, hlen]
    have HC := hide (N_any ⟨(rtake n s).1.toArray⟩ w1 (by rw [hsz]; exact hn))
    rw [hsz] at HC
    clear hlen hsz
    go_wp2_with fail
    refine HC.out.mono ?_
    rintro r w2 ⟨rfl, rfl⟩
    go_wp2_with fail
    go_ret
    rw [HN.out]
    exact ⟨rfl, HR1.out, hk1⟩
end Go.Proofs.YtidioioldlmciaaDoor
