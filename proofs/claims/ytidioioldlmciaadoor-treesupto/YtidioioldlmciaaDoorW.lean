import Derived.Test.YtidioioldlmciaaDoorV
namespace Go.Proofs.YtidioioldlmciaaDoor
open Go.RowKit

def joinS : List (List UInt8) → List UInt8
  | [] => []
  | [x] => x
  | x :: y :: t => x ++ 47 :: joinS (y :: t)
theorem joinS_cons (x y : List UInt8) (t : List (List UInt8)) : joinS (x :: y :: t) = x ++ 47 :: joinS (y :: t) := rfl
theorem join_split : ∀ l, joinS (splitS l) = l
  | [] => rfl
  | c :: l => by
    have ih := join_split l
    obtain ⟨h, t, e⟩ := splitS_cons l
    rw [e] at ih
    by_cases hc : c = 47
    · rw [splitS, if_pos hc, e, joinS_cons, ih, hc]; rfl
    · rw [splitS, if_neg hc, e]
      cases t with
      | nil => simp only [joinS] at ih ⊢; rw [ih]
      | cons y t => simp only [joinS_cons, List.cons_append] at ih ⊢; rw [ih]
theorem joinS_app (c : List UInt8) (r : List (List UInt8)) : ∀ (x : List UInt8) (a : List (List UInt8)), joinS (x :: a ++ c :: r) = joinS (x :: a) ++ 47 :: joinS (c :: r)
  | x, [] => by simp [joinS]
  | x, y :: a => by
    have ih := joinS_app c r y a
    simp only [List.cons_append, joinS_cons, List.append_assoc] at ih ⊢
    rw [ih]

theorem less_trans : ∀ (a b c : List UInt8), Op.bytesLess a b = true → Op.bytesLess b c = true → Op.bytesLess a c = true
  | [], [], _, h, _ => by simp [Op.bytesLess] at h
  | [], _ :: _, [], _, h => by simp [Op.bytesLess] at h
  | [], _ :: _, _ :: _, _, _ => rfl
  | _ :: _, [], _, h, _ => by simp [Op.bytesLess] at h
  | _ :: _, _ :: _, [], _, h => by simp [Op.bytesLess] at h
  | x :: a, y :: b, z :: c, h1, h2 => by
    have ih := less_trans a b c
    simp only [Op.bytesLess, Bool.or_eq_true, decide_eq_true_eq, Bool.and_eq_true, beq_iff_eq] at h1 h2 ⊢
    rcases h1 with h1 | ⟨rfl, h1⟩
    · rcases h2 with h2 | ⟨rfl, h2⟩
      · left; exact UInt8.lt_trans h1 h2
      · left; exact h1
    · rcases h2 with h2 | ⟨rfl, h2⟩
      · left; exact h2
      · right; exact ⟨rfl, ih h1 h2⟩
theorem less_irr (a : List UInt8) : Op.bytesLess a a = false := by
  rcases less_tri a a with ⟨_, h, _⟩ | ⟨h, _, _⟩ | ⟨h, _, _⟩
  · simp at h
  · exact h
  · exact h
theorem less_asym {a b : List UInt8} (h : Op.bytesLess a b = true) : Op.bytesLess b a = false := by
  rcases less_tri a b with ⟨_, _, h1⟩ | ⟨h1, _, _⟩ | ⟨h1, _, _⟩
  · exact h1
  · rw [h] at h1; cases h1
  · rw [h] at h1; cases h1
theorem ahead_irr : ∀ a, aheadB a a = false
  | [] => rfl
  | x :: a => by rw [aheadB, if_pos rfl]; exact ahead_irr a
theorem ahead_trans : ∀ (a b c : List (List UInt8)), aheadB a b = true → aheadB b c = true → aheadB a c = true
  | [], [], _, h, _ => by simp [aheadB] at h
  | [], _ :: _, [], _, h => by simp [aheadB] at h
  | [], _ :: _, _ :: _, _, _ => rfl
  | _ :: _, [], _, h, _ => by simp [aheadB] at h
  | _ :: _, _ :: _, [], _, h => by simp [aheadB] at h
  | x :: a, y :: b, z :: c, h1, h2 => by
    have ih := ahead_trans a b c
    rw [aheadB] at h1 h2 ⊢
    by_cases hxy : x = y
    · subst hxy
      rw [if_pos rfl] at h1
      by_cases hz : x = z
      · rw [if_pos hz] at h2 ⊢; exact ih h1 h2
      · rw [if_neg hz] at h2 ⊢; exact h2
    · rw [if_neg hxy] at h1
      by_cases hyz : y = z
      · subst hyz; rw [if_neg hxy]; exact h1
      · rw [if_neg hyz] at h2
        have h3 := less_trans x y z h1 h2
        by_cases hxz : x = z
        · subst hxz; rw [less_irr] at h3; cases h3
        · rw [if_neg hxz]; exact h3
theorem ahead_app (c : List UInt8) (r : List (List UInt8)) : ∀ p, aheadB p (p ++ c :: r) = true
  | [] => rfl
  | x :: p => by rw [List.cons_append, aheadB, if_pos rfl]; exact ahead_app c r p
theorem ahead_between (b : List UInt8) : ∀ (p x : List (List UInt8)), aheadB p x = true → aheadB x (p ++ [b]) = true → ∃ c r, x = p ++ c :: r
  | [], [], h, _ => by simp [aheadB] at h
  | [], c :: r, _, _ => ⟨c, r, rfl⟩
  | _ :: _, [], h, _ => by simp [aheadB] at h
  | a :: p, d :: x, h1, h2 => by
    rw [aheadB] at h1
    rw [List.cons_append, aheadB] at h2
    by_cases h : a = d
    · subst h
      rw [if_pos rfl] at h1 h2
      obtain ⟨c, r, e⟩ := ahead_between b p x h1 h2
      exact ⟨c, r, by rw [e]; rfl⟩
    · rw [if_neg h] at h1
      rw [if_neg (fun e => h e.symm)] at h2
      rw [less_asym h1] at h2; cases h2

theorem split_last : ∀ (l : List UInt8), (∀ c ∈ l, c ≠ 47) ∨ ∃ a b, l = a ++ 47 :: b ∧ ∀ c ∈ b, c ≠ 47
  | [] => by left; simp
  | c :: l => by
    rcases split_last l with h | ⟨a, b, rfl, h⟩
    · by_cases hc : c = 47
      · right; exact ⟨[], l, by simp [hc], h⟩
      · left
        intro x hx
        rcases List.mem_cons.1 hx with rfl | h1
        · exact hc
        · exact h x h1
    · right; exact ⟨c :: a, b, rfl, h⟩
/-- the path above, where there is one -/
theorem par_form (l : List UInt8) (h : ¬ (splitS l).length ≤ 1) : ∃ b, l = parentB l ++ 47 :: b ∧ (∀ c ∈ b, c ≠ 47) ∧ splitS l = splitS (parentB l) ++ [b] := by
  rcases split_last l with h1 | ⟨a, b, rfl, hb⟩
  · rw [splitS_end l h1] at h; simp at h
  · have hs := splitS_last b hb a
    have hlp : lastPart (a ++ 47 :: b) = b := by
      unfold lastPart
      rw [hs, List.getLastD_eq_getLast?, List.getLast?_append]
      simp
    have hpar : parentB (a ++ 47 :: b) = a := by
      unfold parentB
      rw [hlp, List.length_append, List.length_cons]
      rw [show a.length + (b.length + 1) - b.length - 1 = a.length by omega]
      simp
    rw [hpar]
    exact ⟨b, rfl, hb, hs⟩
theorem anc_cases (q l : List UInt8) (h : (q ++ [47]).isPrefixOf l = true) : ¬ (splitS l).length ≤ 1 ∧ (q = parentB l ∨ (q ++ [47]).isPrefixOf (parentB l) = true) := by
  rw [List.isPrefixOf_iff_prefix] at h
  obtain ⟨t, ht⟩ := h
  have hl : l = q ++ 47 :: t := by rw [← ht]; simp
  have hn : ¬ (splitS l).length ≤ 1 := by
    intro h1
    rcases split_last l with h2 | ⟨a, b, e, hb⟩
    · exact h2 47 (by rw [hl]; simp) rfl
    · rw [e, splitS_last b hb a, List.length_append] at h1
      have := splitS_pos a
      rw [List.length_singleton] at h1
      omega
  refine ⟨hn, ?_⟩
  obtain ⟨b, e, hb, _⟩ := par_form l hn
  generalize parentB l = P at *
  rw [hl] at e
  rcases Nat.lt_trichotomy q.length P.length with h1 | h1 | h1
  · right
    rw [List.isPrefixOf_iff_prefix]
    have h2 : (q ++ [47]) <+: (P ++ 47 :: b) := ⟨t, by rw [← e]; simp⟩
    exact List.prefix_of_prefix_length_le h2 (List.prefix_append _ _) (by simp; omega)
  · left
    exact (List.append_inj e h1).1
  · exfalso
    have h2 : (P ++ 47 :: b)[q.length]? = some 47 := by rw [← e]; simp
    rw [List.getElem?_append_right (by omega)] at h2
    obtain ⟨d, hd⟩ : ∃ d, q.length - P.length = d + 1 := ⟨q.length - P.length - 1, by omega⟩
    rw [hd, List.getElem?_cons_succ] at h2
    exact hb 47 (List.mem_of_getElem? h2) rfl

theorem path_parts {l : List UInt8} (h : okPath l = true) : aheadB [[]] (splitS l) = true ∧ ∀ q, parentB l = [] → ¬ (splitS l).length ≤ 1 → q = true := by
  unfold okPath at h
  rw [Bool.and_eq_true] at h
  obtain ⟨x, t, e⟩ := splitS_cons l
  have hx : goodPart x = true := by
    have := h.1
    rw [e] at this
    simp only [List.all_cons, Bool.and_eq_true] at this
    exact this.1
  have hne : x ≠ [] := by
    intro e'
    rw [e'] at hx
    simp [goodPart] at hx
  refine ⟨?_, ?_⟩
  · rw [e, aheadB, if_neg (fun e' => hne e'.symm), nil_less]
    cases x with
    | nil => exact absurd rfl hne
    | cons _ _ => rfl
  · intro q hp hn
    obtain ⟨b, _, _, hs⟩ := par_form l hn
    rw [hp] at hs
    rw [e] at hs
    simp [splitS] at hs
    exact absurd hs.1 hne

abbrev pathL (e : En) : List UInt8 := e.path.data.toList

theorem step_iff (es : List En) (k : Nat) (hk : k < es.length) : stepB es k = true ↔ entryOk es[k] = true ∧ aheadB (splitS (pathL (prevE es k))) (splitS (pathL es[k])) = true ∧ hasPar (prevE es k) (pathL es[k]) = true := by
  rw [stepB_is es k hk]
  unfold followsB
  simp only [Bool.and_eq_true, pathL]
theorem treeAt_iff (es : List En) (k : Nat) (hk : k < es.length) : treeAt es k = true ↔ entryOk es[k] = true ∧ aheadAt es k = true ∧ parentAt es es[k] = true := by
  unfold treeAt
  rw [List.getElem?_eq_getElem hk]
  simp only [Bool.and_eq_true, and_assoc]
theorem dir_of (es : List En) (j : Nat) (hj : j < es.length) (q : List UInt8) (h1 : pathL es[j] = q) (h2 : es[j].kind = 1) : dirB es q = true := by
  unfold dirB
  rw [List.any_eq_true]
  refine ⟨es[j], List.getElem_mem hj, ?_⟩
  simp only [ByteArray.toList_eq, h2, Bool.and_eq_true]
  exact ⟨by simpa using h1, by decide⟩
theorem par_iff (d : En) (l : List UInt8) (hn : ¬ (splitS l).length ≤ 1) : hasPar d l = true ↔ (pathL d = parentB l ∧ d.kind = 1) ∨ (parentB l ++ [47]).isPrefixOf (pathL d) = true := by
  unfold hasPar
  simp [hn, pathL]

theorem anc_dir (es : List En) (h : ∀ k, k < es.length → stepB es k = true) : ∀ k (hk : k < es.length) q, (q ++ [47]).isPrefixOf (pathL es[k]) = true → dirB es q = true := by
  intro k
  induction k with
  | zero =>
    intro hk q hq
    exfalso
    obtain ⟨_, _, hp⟩ := (step_iff es 0 hk).1 (h 0 hk)
    obtain ⟨hn, _⟩ := anc_cases q _ hq
    rcases (par_iff _ _ hn).1 hp with ⟨_, h2⟩ | h2
    · simp [prevE, nilE0] at h2
    · have : pathL (prevE es 0) = [] := rfl
      rw [this, List.isPrefixOf_iff_prefix] at h2
      have := List.IsPrefix.length_le h2
      simp at this
  | succ j ih =>
    intro hk q hq
    have hj : j < es.length := by omega
    obtain ⟨_, _, hp⟩ := (step_iff es (j + 1) hk).1 (h (j + 1) hk)
    obtain ⟨hn, hc⟩ := anc_cases q _ hq
    rw [prevE_succ es j hj] at hp
    rcases (par_iff _ _ hn).1 hp with ⟨h1, h2⟩ | h2
    · rcases hc with hc | hc
      · exact dir_of es j hj q (by rw [h1, hc]) h2
      · exact ih hj q (by rw [h1]; exact hc)
    · rcases hc with hc | hc
      · exact ih hj q (by rw [hc]; exact h2)
      · refine ih hj q ?_
        rw [List.isPrefixOf_iff_prefix] at hc h2 ⊢
        exact (hc.trans (List.prefix_append _ _)).trans h2

theorem ahead_succ (es : List En) (j : Nat) (hj : j + 1 < es.length) : aheadAt es (j + 1) = aheadB (splitS (pathL (es[j]'(by omega)))) (splitS (pathL es[j + 1])) := by
  simp only [aheadAt, List.getElem?_eq_getElem (show j < es.length by omega), List.getElem?_eq_getElem hj, pathL]

theorem rise (es : List En) (h : ∀ k, k < es.length → aheadAt es k = true) : ∀ j (hj : j < es.length) i (hij : i < j), aheadB (splitS (pathL (es[i]'(by omega)))) (splitS (pathL es[j])) = true := by
  intro j
  induction j with
  | zero => intro _ i hij; omega
  | succ j ih =>
    intro hj i hij
    have h1 := h (j + 1) hj
    rw [ahead_succ es j hj] at h1
    by_cases hi : i = j
    · subst hi; exact h1
    · exact ahead_trans _ _ _ (ih (by omega) i (by omega)) h1

theorem entry_path {e : En} (h : entryOk e = true) : okPath (pathL e) = true := entryOk_path h

theorem tree_eq (es : List En) : siltTree es = isTreeB es := by
  rw [Bool.eq_iff_iff]
  unfold siltTree isTreeB
  rw [List.all_eq_true, List.all_eq_true]
  constructor
  · intro h0
    have h : ∀ k (hk : k < es.length), stepB es k = true := fun k hk => h0 k (List.mem_range.2 hk)
    intro k hk0
    have hk := List.mem_range.1 hk0
    obtain ⟨h1, h2, _⟩ := (step_iff es k hk).1 (h k hk)
    rw [treeAt_iff es k hk]
    refine ⟨h1, ?_, ?_⟩
    · cases k with
      | zero => rfl
      | succ j =>
        have hj : j < es.length := by omega
        rw [prevE_succ es j hj] at h2
        rw [ahead_succ es j hk]
        exact h2
    · unfold parentAt
      by_cases hn : (splitS es[k].path.data.toList).length ≤ 1
      · simp [hn]
      · obtain ⟨b, e, _, _⟩ := par_form _ hn
        rw [Bool.or_eq_true]
        right
        refine anc_dir es h k hk _ ?_
        rw [List.isPrefixOf_iff_prefix]
        refine ⟨b, ?_⟩
        show _ = es[k].path.data.toList
        rw [List.append_assoc]
        exact e.symm
  · intro h0
    have h : ∀ k (hk : k < es.length), entryOk es[k] = true ∧ aheadAt es k = true ∧ parentAt es es[k] = true := fun k hk => (treeAt_iff es k hk).1 (h0 k (List.mem_range.2 hk))
    have hr := rise es (fun k hk => (h k hk).2.1)
    intro k hk0
    have hk := List.mem_range.1 hk0
    obtain ⟨h1, h2, h3⟩ := h k hk
    rw [step_iff es k hk]
    refine ⟨h1, ?_, ?_⟩
    · cases k with
      | zero => exact (path_parts (entry_path h1)).1
      | succ j =>
        have hj : j < es.length := by omega
        rw [prevE_succ es j hj]
        exact hr (j + 1) hk j (by omega)
    · by_cases hn : (splitS (pathL es[k])).length ≤ 1
      · unfold hasPar; simp [hn]
      · rw [par_iff _ _ hn]
        unfold parentAt at h3
        rw [Bool.or_eq_true] at h3
        rcases h3 with h3 | h3
        · exact absurd (by simpa using h3) hn
        · unfold dirB at h3
          rw [List.any_eq_true] at h3
          obtain ⟨d, hd, h4⟩ := h3
          simp only [ByteArray.toList_eq, Bool.and_eq_true, beq_iff_eq] at h4
          obtain ⟨j, hj, rfl⟩ := List.getElem_of_mem hd
          obtain ⟨b, _, _, hs⟩ := par_form _ hn
          have hpk : aheadB (splitS (pathL es[j])) (splitS (pathL es[k])) = true := by
            rw [hs]
            have : splitS (pathL es[j]) = splitS (parentB (pathL es[k])) := by rw [show pathL es[j] = parentB (pathL es[k]) from h4.1]
            rw [this]
            exact ahead_app b [] _
          have hjk : j < k := by
            rcases Nat.lt_trichotomy j k with hx | hx | hx
            · exact hx
            · subst hx; rw [ahead_irr] at hpk; cases hpk
            · have := ahead_trans _ _ _ hpk (hr j hj k hx)
              rw [ahead_irr] at this; cases this
          obtain ⟨m, rfl⟩ : ∃ m, k = m + 1 := ⟨k - 1, by omega⟩
          have hm : m < es.length := by omega
          rw [prevE_succ es m hm]
          by_cases hjm : j = m
          · subst hjm; left; exact h4
          · right
            have g1 := hr m hm j (by omega)
            have g2 := hr (m + 1) hk m (by omega)
            rw [hs] at g2
            rw [show pathL es[j] = parentB (pathL es[m + 1]) from h4.1] at g1
            obtain ⟨c, r, e⟩ := ahead_between b _ _ g1 g2
            have hj1 := join_split (pathL es[m])
            rw [e] at hj1
            obtain ⟨x, t, ex⟩ := splitS_cons (parentB (pathL es[m + 1]))
            rw [ex, joinS_app, ← ex, join_split] at hj1
            rw [List.isPrefixOf_iff_prefix, ← hj1]
            exact ⟨joinS (c :: r), by simp⟩
end Go.Proofs.YtidioioldlmciaaDoor
