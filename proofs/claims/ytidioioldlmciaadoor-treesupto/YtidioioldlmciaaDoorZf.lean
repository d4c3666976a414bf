import Derived.Test.YtidioioldlmciaaDoorZe
namespace Go.Proofs.YtidioioldlmciaaDoor
open Go.RowKit

abbrev St := List UInt8 × Bool
/-- both have come up short, or they are the same and have not -/
def Agr {α : Type} (x y : α × St) : Prop := (x.2.2 = true ∧ y.2.2 = true) ∨ (x = y ∧ x.2.2 = false)
def Ags (s t : St) : Prop := (s.2 = true ∧ t.2 = true) ∨ (s = t ∧ s.2 = false)
theorem Agr.st {α : Type} {x y : α × St} (h : Agr x y) : Ags x.2 y.2 := by
  rcases h with h | ⟨rfl, h⟩
  · exact .inl h
  · exact .inr ⟨rfl, h⟩
theorem take_agr (n : Nat) (s t : St) (h : Ags s t) (m : Nat) (hm : s.2 = false → n = m) : Agr (rtake n s) (ntake m t) := by
  rcases h with ⟨h1, h2⟩ | ⟨rfl, h1⟩
  · left
    constructor
    · unfold rtake; split <;> simp [h1]
    · exact (by rw [ntake, if_pos h2]; exact h2)
  · obtain rfl := hm h1
    obtain ⟨l, b⟩ := s
    simp only at h1
    subst h1
    unfold rtake ntake
    rw [if_neg (show ¬ ((l, false) : St).2 = true by simp)]
    by_cases hn : l.length < n
    · left; simp [hn]
    · right; simp [hn]
theorem num_agr (n : Nat) (s t : St) (h : Ags s t) : Agr (rnum n s) (nnum n t) := by
  rcases take_agr n s t h n (fun _ => rfl) with ⟨h1, h2⟩ | ⟨h1, h2⟩
  · left; exact ⟨h1, h2⟩
  · right
    unfold rnum nnum
    rw [← h1]
    refine ⟨?_, h2⟩
    rw [if_neg (by rw [h2]; decide)]
theorem text_agr (n : Nat) (s t : St) (h : Ags s t) : Agr (rtake (rnum n s).1 (rnum n s).2) (ntext n t) := by
  have h1 := num_agr n s t h
  refine take_agr _ _ _ h1.st _ (fun hf => ?_)
  rcases h1 with ⟨h2, _⟩ | ⟨h2, _⟩
  · rw [hf] at h2; cases h2
  · rw [h2]
theorem ntake_st (n : Nat) (t : St) (h : t.2 = true) : (ntake n t).2.2 = true := by rw [ntake, if_pos h]; exact h
theorem nnum_st (n : Nat) (t : St) (h : t.2 = true) : (nnum n t).2.2 = true := ntake_st n t h
theorem ntext_st (n : Nat) (t : St) (h : t.2 = true) : (ntext n t).2.2 = true := ntake_st _ _ (nnum_st n t h)
theorem nNotes_st : ∀ (c : Nat) (t : St), t.2 = true → (nNotes c t).2.2 = true
  | 0, _, h => h
  | c + 1, _, h => nNotes_st c _ (ntext_st _ _ (ntext_st _ _ h))
theorem rtake_st (n : Nat) (t : St) (h : t.2 = true) : (rtake n t).2.2 = true := by unfold rtake; split <;> simp [h]
theorem rnum_st (n : Nat) (t : St) (h : t.2 = true) : (rnum n t).2.2 = true := rtake_st n t h
theorem refNotes_st (c : Nat) (t : St) (h : t.2 = true) : (refNotes c t).2.2 = true := by
  cases c with
  | zero => exact h
  | succ c => rw [refNotes, if_pos h]; exact h
/-- once both are short, or at the same place, what follows agrees -/
theorem notes_agr : ∀ (c : Nat) (s t : St), Ags s t → Agr (refNotes c s) (nNotes c t)
  | 0, s, t, h => by
    rcases h with h | ⟨rfl, h⟩
    · exact .inl h
    · exact .inr ⟨rfl, h⟩
  | c + 1, s, t, h => by
    have h1 := text_agr 1 s t h
    have h2 := text_agr 1 _ _ h1.st
    have h3 := notes_agr c _ _ h2.st
    rcases h with ⟨hs, ht⟩ | ⟨rfl, hs⟩
    · exact .inl ⟨refNotes_st _ _ hs, nNotes_st _ _ ht⟩
    · have e : refNotes (c + 1) s = (⟨⟨(rtake (rnum 1 s).1 (rnum 1 s).2).1.toArray⟩, ⟨(rtake (rnum 1 (rtake (rnum 1 s).1 (rnum 1 s).2).2).1 (rnum 1 (rtake (rnum 1 s).1 (rnum 1 s).2).2).2).1.toArray⟩⟩ :: (refNotes c (rtake (rnum 1 (rtake (rnum 1 s).1 (rnum 1 s).2).2).1 (rnum 1 (rtake (rnum 1 s).1 (rnum 1 s).2).2).2).2).1,
          (refNotes c (rtake (rnum 1 (rtake (rnum 1 s).1 (rnum 1 s).2).2).1 (rnum 1 (rtake (rnum 1 s).1 (rnum 1 s).2).2).2).2).2) := by
        rw [refNotes, if_neg (by rw [hs]; decide)]
      rcases h3 with ⟨a, b⟩ | ⟨a, b⟩
      · left
        rw [e]
        exact ⟨a, b⟩
      · have f2 : (rtake (rnum 1 (rtake (rnum 1 s).1 (rnum 1 s).2).2).1 (rnum 1 (rtake (rnum 1 s).1 (rnum 1 s).2).2).2).2.2 = false := by
          cases hq : (rtake (rnum 1 (rtake (rnum 1 s).1 (rnum 1 s).2).2).1 (rnum 1 (rtake (rnum 1 s).1 (rnum 1 s).2).2).2).2.2
          · rfl
          · rw [refNotes_st c _ hq] at b; cases b
        have f1 : (rtake (rnum 1 s).1 (rnum 1 s).2).2.2 = false := by
          cases hq : (rtake (rnum 1 s).1 (rnum 1 s).2).2.2
          · rfl
          · rw [rtake_st _ _ (rnum_st 1 _ hq)] at f2; cases f2
        right
        rcases h2 with ⟨q, _⟩ | ⟨g2, _⟩
        · rw [f2] at q; cases q
        · rcases h1 with ⟨q, _⟩ | ⟨g1, _⟩
          · rw [f1] at q; cases q
          · rw [e]
            refine ⟨?_, b⟩
            rw [nNotes, a, g2, g1]
theorem notes_agr2 (c d : Nat) (s t : St) (h : Ags s t) (hc : s.2 = false → c = d) : Agr (refNotes c s) (nNotes d t) := by
  rcases h with ⟨hs, ht⟩ | ⟨e, hs⟩
  · exact .inl ⟨refNotes_st _ _ hs, nNotes_st _ _ ht⟩
  · rw [hc hs]
    exact notes_agr d s t (.inr ⟨e, hs⟩)
theorem Agr.fst {α : Type} {x y : α × St} (h : Agr x y) (hf : x.2.2 = false) : x = y := by
  rcases h with ⟨h1, _⟩ | ⟨h1, _⟩
  · rw [hf] at h1; cases h1
  · exact h1
theorem back {x y : Bool} (h : x = true → y = true) (hy : y = false) : x = false := by
  cases x
  · rfl
  · rw [h rfl] at hy; cases hy
/-- the reference's entry is silt's head, with its content, or both are short -/
theorem head_agr (t : List UInt8) : ((refEntry (t, false)).2.2 = true ∧ ((nHead (t, false)).2.2.2 = true ∨ (nHead (t, false)).2.2.1.length < (nHead (t, false)).2.1)) ∨
    ((nHead (t, false)).2.2.2 = false ∧ (nHead (t, false)).2.1 ≤ (nHead (t, false)).2.2.1.length ∧ refEntry (t, false) = ({ (nHead (t, false)).1 with content := ⟨((nHead (t, false)).2.2.1.take (nHead (t, false)).2.1).toArray⟩ }, ((nHead (t, false)).2.2.1.drop (nHead (t, false)).2.1, false))) := by
  have h : Ags ((t, false) : St) ((t, false) : St) := .inr ⟨rfl, rfl⟩
  generalize hs : ((t, false) : St) = s at h ⊢
  clear hs
  unfold refEntry nHead
  simp only
  have a1 := num_agr 1 s s h
  generalize rnum 1 s = x1 at a1 ⊢
  generalize nnum 1 s = y1 at a1 ⊢
  have a2 := text_agr 1 x1.2 y1.2 a1.st
  have g2 : x1.2.2 = true → (rtake (rnum 1 x1.2).1 (rnum 1 x1.2).2).2.2 = true := fun hx => rtake_st _ _ (rnum_st 1 _ hx)
  generalize rtake (rnum 1 x1.2).1 (rnum 1 x1.2).2 = x2 at a2 g2 ⊢
  generalize ntext 1 y1.2 = y2 at a2 ⊢
  have a3 := num_agr 2 x2.2 y2.2 a2.st
  have g3 : x2.2.2 = true → (rnum 2 x2.2).2.2 = true := fun hx => rnum_st 2 _ hx
  generalize rnum 2 x2.2 = x3 at a3 g3 ⊢
  generalize nnum 2 y2.2 = y3 at a3 ⊢
  have a4 := num_agr 5 x3.2 y3.2 a3.st
  have g4 : x3.2.2 = true → (rnum 5 x3.2).2.2 = true := fun hx => rnum_st 5 _ hx
  generalize rnum 5 x3.2 = x4 at a4 g4 ⊢
  generalize nnum 5 y3.2 = y4 at a4 ⊢
  have a5 := num_agr 1 x4.2 y4.2 a4.st
  have g5 : x4.2.2 = true → (rnum 1 x4.2).2.2 = true := fun hx => rnum_st 1 _ hx
  generalize rnum 1 x4.2 = x5 at a5 g5 ⊢
  generalize nnum 1 y4.2 = y5 at a5 ⊢
  have a6 := notes_agr2 x5.1 y5.1 x5.2 y5.2 a5.st (fun hf => congrArg Prod.fst (a5.fst hf))
  have g6 : x5.2.2 = true → (refNotes x5.1 x5.2).2.2 = true := fun hx => refNotes_st _ _ hx
  generalize refNotes x5.1 x5.2 = x6 at a6 g6 ⊢
  generalize nNotes y5.1 y5.2 = y6 at a6 ⊢
  have a7 := num_agr 4 x6.2 y6.2 a6.st
  have g7 : x6.2.2 = true → (rnum 4 x6.2).2.2 = true := fun hx => rnum_st 4 _ hx
  generalize rnum 4 x6.2 = x7 at a7 g7 ⊢
  generalize nnum 4 y6.2 = y7 at a7 ⊢
  rcases a7 with ⟨p, q⟩ | ⟨e7, f7⟩
  · exact .inl ⟨rtake_st _ _ p, .inl q⟩
  · have f6 := back g7 f7
    have f5 := back g6 f6
    have f4 := back g5 f5
    have f3 := back g4 f4
    have f2 := back g3 f3
    have f1 := back g2 f2
    subst e7
    by_cases hn : x7.2.1.length < x7.1
    · left
      exact ⟨by rw [rtake, if_pos hn], .inr hn⟩
    · right
      refine ⟨f7, by omega, ?_⟩
      rw [rtake, if_neg hn, a6.fst f6, a4.fst f4, a3.fst f3, a2.fst f2, a1.fst f1, f7]
theorem refAll_st (f : Nat) (t : St) (h : t.2 = true) : (refAll f t).2 = true := by
  cases f with
  | zero => exact h
  | succ f => rw [refAll, if_pos (.inr h)]; exact h
theorem refAll_step (f : Nat) (t : List UInt8) (h2 : t ≠ []) : refAll (f + 1) (t, false) = ((refEntry (t, false)).1 :: (refAll f (refEntry (t, false)).2).1, (refAll f (refEntry (t, false)).2).2) := by
  rw [refAll, if_neg (by simpa using h2)]
/-- each entry may be, and may stand behind the one ahead of it -/
def chk : En → List En → Bool
  | _, [] => true
  | d, e :: es => (entryOk e && followsB d e) && chk e es
theorem chk_content (d : En) (c : ByteArray) (es : List En) : chk { d with content := c } es = chk d es := by
  cases es <;> rfl
theorem entryOk_size (e : En) (a b : ByteArray) (h : a.size = b.size) : entryOk { e with content := a } = entryOk { e with content := b } := by
  unfold entryOk kindOk
  simp only [h]
theorem all_agr : ∀ (f : Nat) (d : En) (t : List UInt8), t.length < f → nAll f d t = if (refAll f (t, false)).2 = false ∧ chk d (refAll f (t, false)).1 = true then some (refAll f (t, false)).1 else none
  | 0, _, t, h => absurd h (Nat.not_lt_zero _)
  | f + 1, d, t, h => by
    by_cases hn : t = []
    · subst hn
      have e : refAll (f + 1) (([], false) : St) = ([], false) := refAll_stop (f + 1) _ (.inl rfl)
      rw [nAll, if_pos rfl, e, if_pos ⟨rfl, rfl⟩]
    · rw [nAll, if_neg hn, refAll_step f t hn]
      have hdec := nHead_dec t hn
      rcases head_agr t with ⟨h1, h2⟩ | ⟨h1, h2, h3⟩
      · have hno : headOk d (nHead (t, false)) = false := by
          unfold headOk
          rcases h2 with h2 | h2
          · rw [h2]; rfl
          · have : decide ((nHead (t, false)).2.1 ≤ (nHead (t, false)).2.2.1.length) = false := by simp; omega
            rw [this]
            simp
        rw [if_neg (by rw [hno]; decide), if_neg]
        rintro ⟨hx, _⟩
        rw [refAll_st f _ h1] at hx
        cases hx
      · have ih := all_agr f (nHead (t, false)).1 ((nHead (t, false)).2.2.1.drop (nHead (t, false)).2.1) (by rw [List.length_drop]; omega)
        rw [h3]
        simp only
        have hhd : headOk d (nHead (t, false)) = (entryOk { (nHead (t, false)).1 with content := ⟨((nHead (t, false)).2.2.1.take (nHead (t, false)).2.1).toArray⟩ } && followsB d { (nHead (t, false)).1 with content := ⟨((nHead (t, false)).2.2.1.take (nHead (t, false)).2.1).toArray⟩ }) := by
          unfold headOk
          have e1 : decide ((nHead (t, false)).2.1 ≤ (nHead (t, false)).2.2.1.length) = true := by simpa using h2
          rw [h1, e1, entryOk_size _ (blank (nHead (t, false)).2.1) ⟨((nHead (t, false)).2.2.1.take (nHead (t, false)).2.1).toArray⟩ (by rw [blank_size, mk_size, List.length_take]; omega), Bool.and_true]
          rfl
        rw [ih]
        generalize nHead (t, false) = H at *
        obtain ⟨en, n, t2, b2⟩ := H
        simp only at hhd ⊢
        generalize refAll f (t2.drop n, false) = R at *
        rw [hhd]
        have hcc := chk_content en ⟨(t2.take n).toArray⟩ R.1
        rw [chk, hcc]
        generalize (entryOk { en with content := ⟨(t2.take n).toArray⟩ } && followsB d { en with content := ⟨(t2.take n).toArray⟩ }) = b at *
        cases b
        · rw [if_neg (by decide), if_neg (by rintro ⟨_, hx⟩; cases hx)]
        · rw [if_pos rfl, Bool.true_and]
          by_cases hc : R.2 = false ∧ chk en R.1 = true
          · rw [if_pos hc, if_pos hc]; rfl
          · rw [if_neg hc, if_neg hc]; rfl
theorem chk_drop (es : List En) : ∀ (n k : Nat), k + n = es.length → chk (prevE es k) (es.drop k) = ((List.range es.length).drop k).all (stepB es)
  | 0, k, h => by
    rw [List.drop_of_length_le (by omega), List.drop_of_length_le (by rw [List.length_range]; omega)]
    rfl
  | n + 1, k, h => by
    have hk : k < es.length := by omega
    have hr : k < (List.range es.length).length := by rw [List.length_range]; exact hk
    have ih := chk_drop es n (k + 1) (by omega)
    rw [prevE_succ es k hk] at ih
    rw [List.drop_eq_getElem_cons hk, List.drop_eq_getElem_cons hr, chk, ih, List.all_cons, List.getElem_range, stepB_is es k hk]
theorem chk_tree (es : List En) : chk nilE0 es = isTreeB es := by
  rw [← tree_eq]
  have := chk_drop es es.length 0 (by omega)
  rw [List.drop_zero, List.drop_zero] at this
  exact this
theorem treeAns_eq (l : List UInt8) : nTreeAns l = treeAns l := by
  unfold nTreeAns treeAns
  by_cases hb : l.length > 65536
  · rw [if_pos hb, if_pos hb]
  · rw [if_neg hb, if_neg hb, all_agr (l.length + 1) nilE0 l (by omega)]
    generalize refAll (l.length + 1) (l, false) = R
    rw [chk_tree]
    cases h1 : R.2
    · cases h2 : isTreeB R.1
      · rw [if_neg (by simp), if_neg (by decide), if_pos rfl]; rfl
      · rw [if_pos ⟨rfl, rfl⟩, if_neg (by decide), if_neg (by decide)]; rfl
    · rw [if_neg (by simp), if_pos rfl]; rfl

/-- silt's Tree, in the words of the reference -/
theorem Tree_any (l : List UInt8) (bv : Value) (m : Int) (w : World) (hm : w.cell? ⟨0, 0, none⟩ = some (.int .i64 m)) (hb : BytesAt w bv l) (hl : l.length ≤ 2000000) :
    Calls Tryd.prog 12 #[bv] w fun r w' => TreeAns w w' r (treeAns l) := by
  have := Tree_any0 l bv m w hm hb hl
  rw [treeAns_eq] at this
  exact this
end Go.Proofs.YtidioioldlmciaaDoor
