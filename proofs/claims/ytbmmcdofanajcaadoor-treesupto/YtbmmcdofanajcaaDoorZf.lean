import Derived.Test.YtbmmcdofanajcaaDoorZe
namespace Go.Proofs.YtbmmcdofanajcaaDoor
open Go.RowKit

abbrev St := List UInt8 × Bool
/-- both have come up short, or they are the same and have not -/
def Agr {α : Type} (x y : α × St) : Prop := (x.2.2 = true ∧ y.2.2 = true) ∨ (x = y ∧ x.2.2 = false)
def Ags (s t : St) : Prop := (s.2 = true ∧ t.2 = true) ∨ (s = t ∧ s.2 = false)
theorem Agr.st {α : Type} {x y : α × St} (h : Agr x y) : Ags x.2 y.2 := by
  rcases h with h | ⟨rfl, h⟩
  · exact .inl h
  · exact .inr ⟨rfl, h⟩
theorem take_agr (n : Nat) (s t : St) (h : Ags s t) (m : Nat) (hm : s.2 = false → n = m) : Agr (rtake n s) (stake m t) := by
  rcases h with ⟨h1, h2⟩ | ⟨rfl, h1⟩
  · left
    constructor
    · unfold rtake; split <;> simp [h1]
    · simp [stake, h2]
  · obtain rfl := hm h1
    obtain ⟨l, b⟩ := s
    simp only at h1
    subst h1
    unfold rtake stake
    by_cases hn : l.length < n
    · left; simp [hn]
    · right; simp [hn]
theorem num_agr (n : Nat) (s t : St) (h : Ags s t) : Agr (rnum n s) (snum n t) := by
  rcases take_agr n s t h n (fun _ => rfl) with ⟨h1, h2⟩ | ⟨h1, h2⟩
  · left; exact ⟨h1, h2⟩
  · right
    unfold rnum snum
    rw [← h1]
    refine ⟨?_, h2⟩
    rw [if_neg (by rw [h2]; decide)]
theorem text_agr (n : Nat) (s t : St) (h : Ags s t) : Agr (rtake (rnum n s).1 (rnum n s).2) (stext n t) := by
  have h1 := num_agr n s t h
  refine take_agr _ _ _ h1.st _ (fun hf => ?_)
  rcases h1 with ⟨h2, _⟩ | ⟨h2, _⟩
  · rw [hf] at h2; cases h2
  · rw [h2]
theorem stake_st (n : Nat) (t : St) (h : t.2 = true) : (stake n t).2.2 = true := by simp [stake, h]
theorem snum_st (n : Nat) (t : St) (h : t.2 = true) : (snum n t).2.2 = true := stake_st n t h
theorem stext_st (n : Nat) (t : St) (h : t.2 = true) : (stext n t).2.2 = true := stake_st _ _ (snum_st n t h)
theorem sNotes_st : ∀ (c : Nat) (t : St), t.2 = true → (sNotes c t).2.2 = true
  | 0, _, h => h
  | c + 1, _, h => sNotes_st c _ (stext_st _ _ (stext_st _ _ h))
theorem sEnt_st (t : St) (h : t.2 = true) : (sEnt t).2.2 = true := stext_st _ _ (sNotes_st _ _ (snum_st _ _ (snum_st _ _ (snum_st _ _ (stext_st _ _ (snum_st _ _ h))))))
theorem rtake_st (n : Nat) (t : St) (h : t.2 = true) : (rtake n t).2.2 = true := by unfold rtake; split <;> simp [h]
theorem rnum_st (n : Nat) (t : St) (h : t.2 = true) : (rnum n t).2.2 = true := rtake_st n t h
theorem refNotes_st (c : Nat) (t : St) (h : t.2 = true) : (refNotes c t).2.2 = true := by
  cases c with
  | zero => exact h
  | succ c => rw [refNotes, if_pos h]; exact h
theorem sAll_st : ∀ (f : Nat) (t : St), t.2 = true → (sAll f t).2 = true
  | 0, _, h => h
  | f + 1, t, h => by
    rw [sAll]
    split
    · exact h
    · exact sAll_st f _ (sEnt_st t h)
/-- once both are short, or at the same place, what follows agrees -/
theorem notes_agr : ∀ (c : Nat) (s t : St), Ags s t → Agr (refNotes c s) (sNotes c t)
  | 0, s, t, h => by
    rcases h with h | ⟨rfl, h⟩
    · exact .inl h
    · exact .inr ⟨rfl, h⟩
  | c + 1, s, t, h => by
    have h1 := text_agr 1 s t h
    have h2 := text_agr 1 _ _ h1.st
    have h3 := notes_agr c _ _ h2.st
    rcases h with ⟨hs, ht⟩ | ⟨rfl, hs⟩
    · exact .inl ⟨refNotes_st _ _ hs, sNotes_st _ _ ht⟩
    · have e : refNotes (c + 1) s = (⟨⟨(rtake (rnum 1 s).1 (rnum 1 s).2).1.toArray⟩, ⟨(rtake (rnum 1 (rtake (rnum 1 s).1 (rnum 1 s).2).2).1 (rnum 1 (rtake (rnum 1 s).1 (rnum 1 s).2).2).2).1.toArray⟩⟩ :: (refNotes c (rtake (rnum 1 (rtake (rnum 1 s).1 (rnum 1 s).2).2).1 (rnum 1 (rtake (rnum 1 s).1 (rnum 1 s).2).2).2).2).1,
          (refNotes c (rtake (rnum 1 (rtake (rnum 1 s).1 (rnum 1 s).2).2).1 (rnum 1 (rtake (rnum 1 s).1 (rnum 1 s).2).2).2).2).2) := by
        rw [refNotes, if_neg (by rw [hs]; decide)]
      rcases h3 with ⟨a, b⟩ | ⟨a, b⟩
      · left
        rw [e]
        exact ⟨a, b⟩
      · have f2 : (rtake (rnum 1 (rtake (rnum 1 s).1 (rnum 1 s).2).2).1 (rnum 1 (rtake (rnum 1 s).1 (rnum 1 s).2).2).2).2.2 = false := by
          cases hq : (rtake (rnum 1 (rtake (rnum 1 s).1 (rnum 1 s).2).2).1 (rnum 1 (rtake (rnum 1 s).1 (rnum 1 s).2).2).2).2.2
          · rfl
          · rw [refNotes_st c _ hq] at b; cases b
        have f1 : (rtake (rnum 1 s).1 (rnum 1 s).2).2.2 = false := by
          cases hq : (rtake (rnum 1 s).1 (rnum 1 s).2).2.2
          · rfl
          · rw [rtake_st _ _ (rnum_st 1 _ hq)] at f2; cases f2
        right
        rcases h2 with ⟨q, _⟩ | ⟨g2, _⟩
        · rw [f2] at q; cases q
        · rcases h1 with ⟨q, _⟩ | ⟨g1, _⟩
          · rw [f1] at q; cases q
          · rw [e]
            refine ⟨?_, b⟩
            rw [sNotes, a, g2, g1]
theorem notes_agr2 (c d : Nat) (s t : St) (h : Ags s t) (hc : s.2 = false → c = d) : Agr (refNotes c s) (sNotes d t) := by
  rcases h with ⟨hs, ht⟩ | ⟨e, hs⟩
  · exact .inl ⟨refNotes_st _ _ hs, sNotes_st _ _ ht⟩
  · rw [hc hs]
    exact notes_agr d s t (.inr ⟨e, hs⟩)
theorem Agr.fst {α : Type} {x y : α × St} (h : Agr x y) (hf : x.2.2 = false) : x = y := by
  rcases h with ⟨h1, _⟩ | ⟨h1, _⟩
  · rw [hf] at h1; cases h1
  · exact h1
theorem back {x y : Bool} (h : x = true → y = true) (hy : y = false) : x = false := by
  cases x
  · rfl
  · rw [h rfl] at hy; cases hy
theorem ent_agr (s t : St) (h : Ags s t) : Agr (refEntry s) (sEnt t) := by
  unfold refEntry sEnt
  simp only
  have a1 := num_agr 1 s t h
  have g1 : s.2 = true → (rnum 1 s).2.2 = true := fun hx => rnum_st 1 _ hx
  generalize rnum 1 s = x1 at a1 g1 ⊢
  generalize snum 1 t = y1 at a1 ⊢
  have a2 := text_agr 1 x1.2 y1.2 a1.st
  have g2 : x1.2.2 = true → (rtake (rnum 1 x1.2).1 (rnum 1 x1.2).2).2.2 = true := fun hx => rtake_st _ _ (rnum_st 1 _ hx)
  generalize rtake (rnum 1 x1.2).1 (rnum 1 x1.2).2 = x2 at a2 g2 ⊢
  generalize stext 1 y1.2 = y2 at a2 ⊢
  have a3 := num_agr 2 x2.2 y2.2 a2.st
  have g3 : x2.2.2 = true → (rnum 2 x2.2).2.2 = true := fun hx => rnum_st 2 _ hx
  generalize rnum 2 x2.2 = x3 at a3 g3 ⊢
  generalize snum 2 y2.2 = y3 at a3 ⊢
  have a4 := num_agr 5 x3.2 y3.2 a3.st
  have g4 : x3.2.2 = true → (rnum 5 x3.2).2.2 = true := fun hx => rnum_st 5 _ hx
  generalize rnum 5 x3.2 = x4 at a4 g4 ⊢
  generalize snum 5 y3.2 = y4 at a4 ⊢
  have a5 := num_agr 1 x4.2 y4.2 a4.st
  have g5 : x4.2.2 = true → (rnum 1 x4.2).2.2 = true := fun hx => rnum_st 1 _ hx
  generalize rnum 1 x4.2 = x5 at a5 g5 ⊢
  generalize snum 1 y4.2 = y5 at a5 ⊢
  have a6 := notes_agr2 x5.1 y5.1 x5.2 y5.2 a5.st (fun hf => congrArg Prod.fst (a5.fst hf))
  have g6 : x5.2.2 = true → (refNotes x5.1 x5.2).2.2 = true := fun hx => refNotes_st _ _ hx
  generalize refNotes x5.1 x5.2 = x6 at a6 g6 ⊢
  generalize sNotes y5.1 y5.2 = y6 at a6 ⊢
  have a7 := text_agr 4 x6.2 y6.2 a6.st
  have g7 : x6.2.2 = true → (rtake (rnum 4 x6.2).1 (rnum 4 x6.2).2).2.2 = true := fun hx => rtake_st _ _ (rnum_st 4 _ hx)
  generalize rtake (rnum 4 x6.2).1 (rnum 4 x6.2).2 = x7 at a7 g7 ⊢
  generalize stext 4 y6.2 = y7 at a7 ⊢
  rcases a7 with ⟨p, q⟩ | ⟨e7, f7⟩
  · exact .inl ⟨p, q⟩
  · have f6 := back g7 f7
    have f5 := back g6 f6
    have f4 := back g5 f5
    have f3 := back g4 f4
    have f2 := back g3 f3
    have f1 := back g2 f2
    right
    refine ⟨?_, f7⟩
    rw [e7, a6.fst f6, a4.fst f4, a3.fst f3, a2.fst f2, a1.fst f1]
theorem refAll_st (f : Nat) (t : St) (h : t.2 = true) : (refAll f t).2 = true := by
  cases f with
  | zero => exact h
  | succ f => rw [refAll, if_pos (.inr h)]; exact h
theorem refAll_step (f : Nat) (s : St) (h1 : s.2 = false) (h2 : s.1 ≠ []) : refAll (f + 1) s = ((refEntry s).1 :: (refAll f (refEntry s).2).1, (refAll f (refEntry s).2).2) := by
  rw [refAll, if_neg (by rw [h1]; simpa using h2)]
theorem sAll_step (f : Nat) (s : St) (h2 : s.1 ≠ []) : sAll (f + 1) s = ((sEnt s).1 :: (sAll f (sEnt s).2).1, (sAll f (sEnt s).2).2) := by
  rw [sAll, if_neg h2]
theorem all_agr : ∀ (f : Nat) (s t : St), Ags s t → (refAll f s).2 = (sAll f t).2 ∧ ((refAll f s).2 = false → (refAll f s).1 = (sAll f t).1)
  | 0, s, t, h => by
    rcases h with ⟨h1, h2⟩ | ⟨rfl, h1⟩
    · exact ⟨by show s.2 = t.2; rw [h1, h2], fun _ => rfl⟩
    · exact ⟨rfl, fun _ => rfl⟩
  | f + 1, s, t, h => by
    have h1 := ent_agr s t h
    rcases h with ⟨hs, ht⟩ | ⟨e, hs⟩
    · have e1 := refAll_st (f + 1) s hs
      have e2 := sAll_st (f + 1) t ht
      rw [e1, e2]
      exact ⟨rfl, fun hx => by cases hx⟩
    · subst e
      by_cases hn : s.1 = []
      · rw [refAll, if_pos (.inl hn), sAll, if_pos hn]
        exact ⟨rfl, fun _ => rfl⟩
      · rw [refAll_step f s hs hn, sAll_step f s hn]
        generalize refEntry s = x at h1 ⊢
        generalize sEnt s = y at h1 ⊢
        have h2 := all_agr f x.2 y.2 h1.st
        refine ⟨h2.1, fun hx => ?_⟩
        have hq : x.2.2 = false := back (refAll_st f x.2) hx
        show x.1 :: (refAll f x.2).1 = y.1 :: (sAll f y.2).1
        rw [h2.2 hx, h1.fst hq]
theorem treeAns_eq (l : List UInt8) : sTreeAns l = treeAns l := by
  obtain ⟨h1, h2⟩ := all_agr (l.length + 1) (l, false) (l, false) (.inr ⟨rfl, rfl⟩)
  unfold sTreeAns treeAns
  rw [← h1]
  by_cases hb : l.length > 65536
  · rw [if_pos hb, if_pos hb]
  · rw [if_neg hb, if_neg hb]
    cases hf : (refAll (l.length + 1) (l, false)).2
    · rw [h2 hf]
    · rfl

/-- silt's Tree, in the words of the reference -/
theorem Tree_any (l : List UInt8) (bv : Value) (m : Int) (w : World) (hm : w.cell? ⟨0, 0, none⟩ = some (.int .i64 m)) (hb : BytesAt w bv l) (hl : l.length ≤ 2000000) :
    Calls Tryd.prog 12 #[bv] w fun r w' => TreeAns w w' r (treeAns l) := by
  have := Tree_any0 l bv m w hm hb hl
  rw [treeAns_eq] at this
  exact this
end Go.Proofs.YtbmmcdofanajcaaDoor
