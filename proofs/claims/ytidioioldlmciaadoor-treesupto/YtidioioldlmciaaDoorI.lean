import Derived.Test.YtidioioldlmciaaDoorH
namespace Go.Proofs.YtidioioldlmciaaDoor
open Go.RowKit

def refNotes : Nat → (List UInt8 × Bool) → List Nt × (List UInt8 × Bool)
  | 0, s => ([], s)
  | c + 1, s => if s.2 = true then ([], s) else
    let a := rnum 1 s
    let x := rtake a.1 a.2
    let b := rnum 1 x.2
    let y := rtake b.1 b.2
    let r := refNotes c y.2
    (⟨⟨x.1.toArray⟩, ⟨y.1.toArray⟩⟩ :: r.1, r.2)
def refEntry (s : List UInt8 × Bool) : En × (List UInt8 × Bool) :=
  let k := rnum 1 s
  let n := rnum 1 k.2
  let p := rtake n.1 n.2
  let m := rnum 2 p.2
  let t := rnum 5 m.2
  let c := rnum 1 t.2
  let ns := refNotes c.1 c.2
  let z := rnum 4 ns.2
  let ct := rtake z.1 z.2
  (⟨⟨p.1.toArray⟩, k.1, m.1, t.1, ns.1, ⟨ct.1.toArray⟩⟩, ct.2)
def refAll : Nat → (List UInt8 × Bool) → List En × Bool
  | 0, s => ([], s.2)
  | f + 1, s => if s.1 = [] ∨ s.2 = true then ([], s.2) else
    let e := refEntry s
    let r := refAll f e.2
    (e.1 :: r.1, r.2)

/-! numbers and their bytes -/
theorem numOf_cons (c : UInt8) (l : List UInt8) : numOf (c :: l) = c.toNat * 256 ^ l.length + numOf l := by
  have key : ∀ (l : List UInt8) (a : Nat), l.foldl (fun a b => 256 * a + b.toNat) a = a * 256 ^ l.length + numOf l := by
    intro l
    induction l with
    | nil => intro a; simp [numOf]
    | cons d l ih =>
      intro a
      have h1 := ih (256 * a + d.toNat)
      have h2 := ih (256 * 0 + d.toNat)
      simp only [numOf, List.foldl_cons, List.length_cons, Nat.pow_succ] at h1 h2 ⊢
      rw [h1, h2, Nat.add_mul, Nat.mul_comm 256 a, Nat.mul_assoc, Nat.mul_comm 256 (256 ^ l.length), Nat.add_mul]
      omega
  have h := key l c.toNat
  simp only [numOf, List.foldl_cons] at h ⊢
  simpa using h
theorem digit_cons (c : UInt8) (l : List UInt8) : digitB (numOf (c :: l)) l.length = c := by
  unfold digitB
  rw [numOf_cons]
  have hl := numOf_lt l
  have hp : 0 < 256 ^ l.length := Nat.pow_pos (by decide)
  rw [Nat.add_comm, Nat.add_mul_div_right _ _ hp, Nat.div_eq_of_lt hl, Nat.zero_add, Nat.mod_eq_of_lt c.toNat_lt]
  exact UInt8.ofNat_toNat
theorem digit_low (c : UInt8) (l : List UInt8) (j : Nat) (hj : j < l.length) : digitB (numOf (c :: l)) j = digitB (numOf l) j := by
  unfold digitB
  rw [numOf_cons]
  have hs : 256 ^ l.length = 256 ^ j * (256 * 256 ^ (l.length - j - 1)) := by
    rw [← Nat.mul_assoc, ← Nat.pow_succ, ← Nat.pow_add]
    congr 1; omega
  have hp : 0 < 256 ^ j := Nat.pow_pos (by decide)
  congr 1
  rw [hs, Nat.add_comm, show c.toNat * (256 ^ j * (256 * 256 ^ (l.length - j - 1))) = 256 ^ j * (256 * (c.toNat * 256 ^ (l.length - j - 1))) by
    simp only [Nat.mul_left_comm, Nat.mul_comm, Nat.mul_assoc], Nat.add_mul_div_left _ _ hp, Nat.add_mul_mod_self_left]
theorem numB_numOf : ∀ (l : List UInt8), numB (numOf l) l.length = l
  | [] => rfl
  | c :: l => by
    have ih := numB_numOf l
    apply List.ext_getElem
    · rw [numB_len]
    · intro i h1 h2
      cases i with
      | zero =>
        simp only [numB, numTo, List.length_cons, List.getElem_map, List.getElem_range, List.getElem_cons_zero]
        rw [show l.length + 1 - 1 - 0 = l.length by omega, digit_cons]
      | succ i =>
        have hi : i < l.length := by simpa using h2
        have e1 : (numB (numOf l) l.length)[i]'(by rw [numB_len]; exact hi) = l[i] := by
          have : ∀ (q : List UInt8) (hq : q = l) (hqi : i < q.length), q[i] = l[i]'(by rw [← hq]; exact hqi) := by
            intro q hq hqi; subst hq; rfl
          exact this _ ih _
        simp only [numB, numTo, List.length_cons, List.getElem_map, List.getElem_range, List.getElem_cons_succ] at e1 ⊢
        rw [show l.length + 1 - 1 - (i + 1) = l.length - 1 - i by omega, digit_low _ _ _ (by omega)]
        exact e1

theorem rtake_ok {n : Nat} {s : List UInt8 × Bool} (h : (rtake n s).2.2 = false) : s.2 = false ∧ s.1 = (rtake n s).1 ++ (rtake n s).2.1 ∧ (rtake n s).1.length = n := by
  unfold rtake at h ⊢
  split at h
  · cases h
  · rename_i h1
    rw [if_neg h1]
    exact ⟨h, (List.take_append_drop n s.1).symm, by simp; omega⟩
theorem rtake_le (n : Nat) (s : List UInt8 × Bool) : (rtake n s).2.1.length ≤ s.1.length ∧ (rtake n s).1.length ≤ s.1.length := by
  unfold rtake
  split <;> simp <;> omega
theorem rnum_ok {n : Nat} {s : List UInt8 × Bool} (h : (rnum n s).2.2 = false) : s.2 = false ∧ s.1 = numB (rnum n s).1 n ++ (rnum n s).2.1 := by
  have h' : (rtake n s).2.2 = false := h
  obtain ⟨h1, h2, h3⟩ := rtake_ok h'
  refine ⟨h1, ?_⟩
  have e : (rnum n s).1 = numOf (rtake n s).1 := by unfold rnum; rw [h']; rfl
  have nb := numB_numOf (rtake n s).1
  rw [h3] at nb
  rw [e, nb]
  exact h2
theorem rnum_le (n : Nat) (s : List UInt8 × Bool) : (rnum n s).2.1.length ≤ s.1.length := (rtake_le n s).1
theorem rnum_lt (n : Nat) (s : List UInt8 × Bool) : (rnum n s).1 < 256 ^ n := by
  unfold rnum
  have hp : 0 < 256 ^ n := Nat.pow_pos (by decide)
  simp only
  split
  · exact hp
  · rename_i h
    have h3 := (rtake_ok (n := n) (s := s) (by simpa using h)).2.2
    have := numOf_lt (rtake n s).1
    rw [h3] at this
    exact this
theorem refNotes_step (c : Nat) (s : List UInt8 × Bool) (h : s.2 = false) : refNotes (c + 1) s =
    (⟨⟨(rtake (rnum 1 s).1 (rnum 1 s).2).1.toArray⟩, ⟨(rtake (rnum 1 (rtake (rnum 1 s).1 (rnum 1 s).2).2).1 (rnum 1 (rtake (rnum 1 s).1 (rnum 1 s).2).2).2).1.toArray⟩⟩ ::
      (refNotes c (rtake (rnum 1 (rtake (rnum 1 s).1 (rnum 1 s).2).2).1 (rnum 1 (rtake (rnum 1 s).1 (rnum 1 s).2).2).2).2).1,
     (refNotes c (rtake (rnum 1 (rtake (rnum 1 s).1 (rnum 1 s).2).2).1 (rnum 1 (rtake (rnum 1 s).1 (rnum 1 s).2).2).2).2).2) := by
  simp only [refNotes, h]
  rfl
theorem refNotes_bad (c : Nat) (s : List UInt8 × Bool) (h : s.2 = true) : refNotes c s = ([], s) := by
  cases c with
  | zero => rfl
  | succ c => simp [refNotes, h]
theorem refNotes_ok : ∀ (c : Nat) (s : List UInt8 × Bool), (refNotes c s).2.2 = false → s.2 = false ∧ s.1 = (refNotes c s).1.flatMap ntBytes ++ (refNotes c s).2.1 ∧ (refNotes c s).1.length = c
  | 0, s, h => ⟨h, by simp [refNotes], rfl⟩
  | c + 1, s, h => by
    cases hs : s.2 with
    | true => rw [refNotes_bad _ _ hs] at h; rw [hs] at h; cases h
    | false =>
      rw [refNotes_step c s hs] at h ⊢
      obtain ⟨i1, i2, i3⟩ := refNotes_ok c _ h
      obtain ⟨j1, j2, j3⟩ := rtake_ok i1
      obtain ⟨k1, k2⟩ := rnum_ok j1
      obtain ⟨l1, l2, l3⟩ := rtake_ok k1
      obtain ⟨m1, m2⟩ := rnum_ok l1
      refine ⟨rfl, ?_, by simp [i3]⟩
      simp only [List.flatMap_cons, ntBytes, mk_size, l3, j3]
      rw [m2, l2, k2, j2, i2]
      simp only [List.append_assoc]
theorem refEntry_ok (s : List UInt8 × Bool) (h : (refEntry s).2.2 = false) : s.2 = false ∧ s.1 = enBytes (refEntry s).1 ++ (refEntry s).2.1 := by
  unfold refEntry at h ⊢
  simp only at h ⊢
  obtain ⟨a1, a2, a3⟩ := rtake_ok h
  obtain ⟨b1, b2⟩ := rnum_ok a1
  obtain ⟨c1, c2, c3⟩ := refNotes_ok _ _ b1
  obtain ⟨d1, d2⟩ := rnum_ok c1
  obtain ⟨e1, e2⟩ := rnum_ok d1
  obtain ⟨f1, f2⟩ := rnum_ok e1
  obtain ⟨g1, g2, g3⟩ := rtake_ok f1
  obtain ⟨h1, h2⟩ := rnum_ok g1
  obtain ⟨i1, i2⟩ := rnum_ok h1
  refine ⟨i1, ?_⟩
  simp only [enBytes, headBytes, mk_size, a3, g3, c3, Int.toNat_natCast]
  rw [i2, h2, g2, f2, e2, d2, c2, b2, a2]
  simp only [List.append_assoc]
theorem enBytes_pos (e : En) : 14 ≤ (enBytes e).length := by
  unfold enBytes headBytes
  simp only [List.length_append, numB_len]
  omega
theorem refAll_stop (f : Nat) (s : List UInt8 × Bool) (h : s.1 = [] ∨ s.2 = true) : refAll f s = ([], s.2) := by
  cases f with
  | zero => rfl
  | succ f => rw [refAll, if_pos h]
theorem refAll_go (f : Nat) (s : List UInt8 × Bool) (h : ¬ (s.1 = [] ∨ s.2 = true)) : refAll (f + 1) s = ((refEntry s).1 :: (refAll f (refEntry s).2).1, (refAll f (refEntry s).2).2) := by
  rw [refAll, if_neg h]
theorem refAll_ok : ∀ (f : Nat) (s : List UInt8 × Bool), s.1.length < f → (refAll f s).2 = false → s.2 = false ∧ s.1 = streamB (refAll f s).1
  | 0, s, hf, _ => absurd hf (Nat.not_lt_zero _)
  | f + 1, s, hf, h => by
    by_cases h0 : s.1 = [] ∨ s.2 = true
    · rw [refAll_stop _ _ h0] at h ⊢
      have h' : s.2 = false := h
      refine ⟨h', ?_⟩
      rcases h0 with h0 | h0
      · rw [h0]; rfl
      · rw [h'] at h0; cases h0
    · rw [refAll_go _ _ h0] at h ⊢
      have ok := refEntry_ok s
      generalize refEntry s = q at *
      obtain ⟨e, t⟩ := q
      have h' : (refAll f t).2 = false := h
      show s.2 = false ∧ s.1 = streamB (e :: (refAll f t).1)
      have ok' : t.2 = false → s.2 = false ∧ s.1 = enBytes e ++ t.1 := ok
      have hb : t.2 = false := by
        cases hb : t.2 with
        | false => rfl
        | true =>
          rw [refAll_stop f t (.inr hb)] at h'
          have h'' : t.2 = false := h'
          rw [hb] at h''
          exact h''
      obtain ⟨g1, g2⟩ := ok' hb
      have hp := enBytes_pos e
      have hl : t.1.length < f := by
        have := congrArg List.length g2
        rw [List.length_append] at this
        omega
      obtain ⟨i1, i2⟩ := refAll_ok f t hl h'
      refine ⟨g1, ?_⟩
      have e2 : streamB (e :: (refAll f t).1) = enBytes e ++ streamB (refAll f t).1 := by simp [streamB]
      rw [g2, e2, ← i2]
end Go.Proofs.YtidioioldlmciaaDoor
