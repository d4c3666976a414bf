import Derived.Test.YtidioioldlmciaaDoorL
namespace Go.Proofs.YtidioioldlmciaaDoor
open Go.RowKit

def spoiltS : Value := .string ⟨#[115, 112, 111, 105, 108, 116]⟩
def spoiltEn : En := ⟨⟨#[115, 112, 111, 105, 108, 116]⟩, 0, 0, 0, [], ⟨#[]⟩⟩
def spoiltNt : Nt := ⟨⟨#[115, 112, 111, 105, 108, 116]⟩, ⟨#[]⟩⟩
def sEn : List Value := enCells (spoiltEn, .slice none 0 0)
def sNt : List Value := ntCells spoiltNt

theorem set_two (pre post : List Value) (a b x y : Value) (o : Nat) (ho : pre.length = o) : ((pre ++ (a :: b :: post)).set o x).set (o + 1) y = pre ++ (x :: y :: post) := by
  subst ho
  rw [List.set_append_right _ _ (Nat.le_refl _), Nat.sub_self, List.set_append_right _ _ (by omega)]
  simp
theorem store_two {w : World} {g o : Nat} {t : TypeId} {pre post : List Value} {a b : Value} (h : w.heap[g]? = some (.cells (pre ++ (a :: b :: post)).toArray t (0, 0))) (ho : pre.length = o) (x y : Value) :
    ((w.setCell ⟨g, o, none⟩ x).setCell ⟨g, o + 1, none⟩ y).heap[g]? = some (.cells (pre ++ (x :: y :: post)).toArray t (0, 0)) := by
  have h1 := heap_setCell_same w g o _ t x h
  rw [heap_setCell_same _ g (o + 1) _ t y h1]
  simp only [List.setIfInBounds_toArray]
  rw [set_two pre post a b x y o ho]
theorem store_six {w : World} {g o : Nat} {t : TypeId} {pre post : List Value} {a0 a1 a2 a3 a4 a5 : Value} (h : w.heap[g]? = some (.cells (pre ++ (a0 :: a1 :: a2 :: a3 :: a4 :: a5 :: post)).toArray t (0, 0))) (ho : pre.length = o) (x0 x1 x2 x3 x4 x5 : Value) :
    ((((((w.setCell ⟨g, o, none⟩ x0).setCell ⟨g, o + 1, none⟩ x1).setCell ⟨g, o + 2, none⟩ x2).setCell ⟨g, o + 3, none⟩ x3).setCell ⟨g, o + 4, none⟩ x4).setCell ⟨g, o + 5, none⟩ x5).heap[g]? =
      some (.cells (pre ++ (x0 :: x1 :: x2 :: x3 :: x4 :: x5 :: post)).toArray t (0, 0)) := by
  have h1 := store_two h ho x0 x1
  have h2 : ((w.setCell ⟨g, o, none⟩ x0).setCell ⟨g, o + 1, none⟩ x1).heap[g]? = some (.cells ((pre ++ [x0, x1]) ++ (a2 :: a3 :: a4 :: a5 :: post)).toArray t (0, 0)) := by simpa using h1
  have h3 := store_two h2 (o := o + 2) (by simp [ho]) x2 x3
  have h4 : ((((w.setCell ⟨g, o, none⟩ x0).setCell ⟨g, o + 1, none⟩ x1).setCell ⟨g, o + 2, none⟩ x2).setCell ⟨g, o + 2 + 1, none⟩ x3).heap[g]? = some (.cells ((pre ++ [x0, x1, x2, x3]) ++ (a4 :: a5 :: post)).toArray t (0, 0)) := by simpa using h3
  have h5 := store_two h4 (o := o + 4) (by simp [ho]) x4 x5
  simpa using h5

def LS (g : Nat) (gs : List Nat) : Nat → Prop := fun k => k = g ∨ k ∈ gs
def lentRow (es : List En) (gs : List Nat) : List Value := (lentZ es gs).flatMap enCells ++ zRow bEn 4

structure SInv (w0 w : World) (g : Nat) (es : List En) (gs : List Nat) (k : Nat) : Prop where
  row : w.heap[g]? = some (.cells (zRow sEn k ++ (lentRow es gs).drop (k * 6)).toArray 55 (0, 0))
  nts : ∀ i (h : i < es.length) (h' : i < gs.length), k ≤ i → w.heap[gs[i]]? = some (.cells (ntRow es[i]).toArray 59 (0, 0))
  kept : Kept (LS g gs) w0 w

theorem lentZ_at (es : List En) (gs : List Nat) (k : Nat) (h : k < es.length) (h' : k < gs.length) (hl : k < (lentZ es gs).length) : (lentZ es gs)[k] = (es[k], nSl es[k] gs[k]) := by
  simp [lentZ]
theorem lentRow_en (es : List En) (gs : List Nat) (hl : gs.length = es.length) (k : Nat) (h : k < es.length) (h' : k < gs.length) : (lentRow es gs).drop (k * 6) = enCells (es[k], nSl es[k] gs[k]) ++ (lentRow es gs).drop ((k + 1) * 6) := by
  have hz : (lentZ es gs).length = es.length := lentZ_len es gs hl
  have e1 : (lentZ es gs) = (lentZ es gs).take k ++ (es[k], nSl es[k] gs[k]) :: (lentZ es gs).drop (k + 1) := by
    rw [← lentZ_at es gs k h h' (by omega), ← List.drop_eq_getElem_cons (by omega), List.take_append_drop]
  have l1 : (((lentZ es gs).take k).flatMap enCells).length = k * 6 := by
    rw [flat_len enCells 6 (fun _ => rfl)]; simp [hz]; omega
  have e2 : lentRow es gs = ((lentZ es gs).take k).flatMap enCells ++ (enCells (es[k], nSl es[k] gs[k]) ++ (((lentZ es gs).drop (k + 1)).flatMap enCells ++ zRow bEn 4)) := by
    unfold lentRow
    conv => lhs; rw [e1]
    simp only [List.flatMap_append, List.flatMap_cons, List.append_assoc]
  have e3 : (lentRow es gs).drop (k * 6) = enCells (es[k], nSl es[k] gs[k]) ++ (((lentZ es gs).drop (k + 1)).flatMap enCells ++ zRow bEn 4) := by
    rw [e2, ← l1, List.drop_left]
  have e4 : (lentRow es gs).drop ((k + 1) * 6) = ((lentZ es gs).drop (k + 1)).flatMap enCells ++ zRow bEn 4 := by
    rw [show (k + 1) * 6 = k * 6 + 6 by omega, ← List.drop_drop, e3]
    exact List.drop_left (l₁ := enCells (es[k], nSl es[k] gs[k]))
  rw [e3, e4]
theorem lentRow_b (es : List En) (gs : List Nat) (hl : gs.length = es.length) (m : Nat) (h : m < 4) : (lentRow es gs).drop ((es.length + m) * 6) = bEn ++ (lentRow es gs).drop ((es.length + m + 1) * 6) := by
  have l1 : ((lentZ es gs).flatMap enCells).length = es.length * 6 := by rw [flat_len enCells 6 (fun _ => rfl), lentZ_len es gs hl]
  have e : ∀ j, (lentRow es gs).drop ((es.length + j) * 6) = (zRow bEn 4).drop (j * 6) := by
    intro j
    unfold lentRow
    rw [show (es.length + j) * 6 = es.length * 6 + j * 6 by omega, ← List.drop_drop, ← l1, List.drop_left]
  rw [e m, show es.length + m + 1 = es.length + (m + 1) by omega, e (m + 1)]
  have : m = 0 ∨ m = 1 ∨ m = 2 ∨ m = 3 := by omega
  rcases this with rfl | rfl | rfl | rfl <;> rfl

theorem sRow_len (k : Nat) : (zRow sEn k).length = k * 6 := zRow_len sEn k
/-- the six cells of the entry that comes next -/
theorem SInv.six {w0 w : World} {g : Nat} {es : List En} {gs : List Nat} {k : Nat} (h : SInv w0 w g es gs k) {a0 a1 a2 a3 a4 a5 : Value} {post : List Value} (hr : (lentRow es gs).drop (k * 6) = a0 :: a1 :: a2 :: a3 :: a4 :: a5 :: post) :
    w.cell? ⟨g, k * 6, none⟩ = some a0 ∧ w.cell? ⟨g, k * 6 + 1, none⟩ = some a1 ∧ w.cell? ⟨g, k * 6 + 2, none⟩ = some a2 ∧ w.cell? ⟨g, k * 6 + 3, none⟩ = some a3 ∧ w.cell? ⟨g, k * 6 + 4, none⟩ = some a4 ∧ w.cell? ⟨g, k * 6 + 5, none⟩ = some a5 ∧ ∀ j, w.frozen? ⟨g, j, none⟩ = false := by
  have hrow := h.row
  rw [hr] at hrow
  have key : ∀ j, w.cell? ⟨g, k * 6 + j, none⟩ = (a0 :: a1 :: a2 :: a3 :: a4 :: a5 :: post)[j]? := by
    intro j
    rw [cell_of_row _ _ _ _ _ _ hrow]
    simp only [List.getElem?_toArray]
    rw [List.getElem?_append_right (by rw [sRow_len]; omega), sRow_len, Nat.add_sub_cancel_left]
  exact ⟨key 0, key 1, key 2, key 3, key 4, key 5, fun j => frozen_of_row _ _ j _ _ hrow⟩
theorem SInv.spoil {w0 w : World} {g : Nat} {es : List En} {gs : List Nat} {k : Nat} (h : SInv w0 w g es gs k) {a0 a1 a2 a3 a4 a5 : Value} (hr : (lentRow es gs).drop (k * 6) = a0 :: a1 :: a2 :: a3 :: a4 :: a5 :: (lentRow es gs).drop ((k + 1) * 6)) (hlo : ∀ x ∈ gs, g < x) :
    SInv w0 ((((((w.setCell ⟨g, k * 6, none⟩ spoiltS).setCell ⟨g, k * 6 + 1, none⟩ (.int .i64 0)).setCell ⟨g, k * 6 + 2, none⟩ (.int .i64 0)).setCell ⟨g, k * 6 + 3, none⟩ (.int .i64 0)).setCell ⟨g, k * 6 + 4, none⟩ (.slice none 0 0)).setCell ⟨g, k * 6 + 5, none⟩ (.string ⟨#[]⟩)) g es gs (k + 1) := by
  have hrow := h.row
  rw [hr] at hrow
  have h6 := store_six hrow (sRow_len k) spoiltS (.int .i64 0) (.int .i64 0) (.int .i64 0) (.slice none 0 0) (.string ⟨#[]⟩)
  have hk : Kept (At g) w ((((((w.setCell ⟨g, k * 6, none⟩ spoiltS).setCell ⟨g, k * 6 + 1, none⟩ (.int .i64 0)).setCell ⟨g, k * 6 + 2, none⟩ (.int .i64 0)).setCell ⟨g, k * 6 + 3, none⟩ (.int .i64 0)).setCell ⟨g, k * 6 + 4, none⟩ (.slice none 0 0)).setCell ⟨g, k * 6 + 5, none⟩ (.string ⟨#[]⟩)) :=
    ((((((Kept.refl (At g) w).setCell ⟨g, k * 6, none⟩ (fun _ => rfl) _).setCell ⟨g, k * 6 + 1, none⟩ (fun _ => rfl) _).setCell ⟨g, k * 6 + 2, none⟩ (fun _ => rfl) _).setCell ⟨g, k * 6 + 3, none⟩ (fun _ => rfl) _).setCell ⟨g, k * 6 + 4, none⟩ (fun _ => rfl) _).setCell ⟨g, k * 6 + 5, none⟩ (fun _ => rfl) _
  refine ⟨?_, fun i hi hi' hki => hk.heap (h.nts i hi hi' (by omega)) (fun x => ?_), h.kept.trans' hk (fun i _ x => .inl x)⟩
  · rw [h6, zRow_snoc, List.append_assoc]
    rfl
  · have := hlo _ (List.getElem_mem hi')
    exact absurd (show gs[i] = g from x) (by omega)

/-- the notes of the entry that is being spoilt -/
structure NInv (w0 w : World) (g : Nat) (es : List En) (gs : List Nat) (k : Nat) (gk : Nat) (e : En) (j : Nat) : Prop where
  row : w.heap[g]? = some (.cells (zRow sEn k ++ (lentRow es gs).drop (k * 6)).toArray 55 (0, 0))
  nt : w.heap[gk]? = some (.cells (zRow sNt j ++ (ntRow e).drop (j * 2)).toArray 59 (0, 0))
  nts : ∀ i (h : i < es.length) (h' : i < gs.length), k + 1 ≤ i → w.heap[gs[i]]? = some (.cells (ntRow es[i]).toArray 59 (0, 0))
  kept : Kept (LS g gs) w0 w

theorem ntRow_at (e : En) (j : Nat) (hj : j < e.notes.length) : (ntRow e).drop (j * 2) = .string e.notes[j].name :: .string e.notes[j].text :: (ntRow e).drop ((j + 1) * 2) := by
  have e1 : e.notes = e.notes.take j ++ e.notes[j] :: e.notes.drop (j + 1) := by
    rw [← List.drop_eq_getElem_cons hj, List.take_append_drop]
  have l1 : ((e.notes.take j).flatMap ntCells).length = j * 2 := by
    rw [flat_len ntCells 2 (fun _ => rfl)]; simp; omega
  have e2 : ntRow e = (e.notes.take j).flatMap ntCells ++ (ntCells e.notes[j] ++ ((e.notes.drop (j + 1)).flatMap ntCells ++ zRow zNt 4)) := by
    unfold ntRow
    conv => lhs; rw [e1]
    simp only [List.flatMap_append, List.flatMap_cons, List.append_assoc]
  have e3 : (ntRow e).drop (j * 2) = ntCells e.notes[j] ++ ((e.notes.drop (j + 1)).flatMap ntCells ++ zRow zNt 4) := by
    rw [e2, ← l1, List.drop_left]
  have e4 : (ntRow e).drop ((j + 1) * 2) = (e.notes.drop (j + 1)).flatMap ntCells ++ zRow zNt 4 := by
    rw [show (j + 1) * 2 = j * 2 + 2 by omega, ← List.drop_drop, e3]
    exact List.drop_left (l₁ := ntCells e.notes[j])
  rw [e3, e4]; rfl
theorem ntRow_z (e : En) (m : Nat) (hm : m < 4) : (ntRow e).drop ((e.notes.length + m) * 2) = .string ⟨#[]⟩ :: .string ⟨#[]⟩ :: (ntRow e).drop ((e.notes.length + m + 1) * 2) := by
  have l1 : (e.notes.flatMap ntCells).length = e.notes.length * 2 := flat_len ntCells 2 (fun _ => rfl) _
  have ee : ∀ j, (ntRow e).drop ((e.notes.length + j) * 2) = (zRow zNt 4).drop (j * 2) := by
    intro j
    unfold ntRow
    rw [show (e.notes.length + j) * 2 = e.notes.length * 2 + j * 2 by omega, ← List.drop_drop, ← l1, List.drop_left]
  rw [ee m, show e.notes.length + m + 1 = e.notes.length + (m + 1) by omega, ee (m + 1)]
  have : m = 0 ∨ m = 1 ∨ m = 2 ∨ m = 3 := by omega
  rcases this with rfl | rfl | rfl | rfl <;> rfl
theorem snRow_len (k : Nat) : (zRow sNt k).length = k * 2 := zRow_len sNt k
theorem NInv.two {w0 w : World} {g : Nat} {es : List En} {gs : List Nat} {k gk : Nat} {e : En} {j : Nat} (h : NInv w0 w g es gs k gk e j) {a b : Value} {post : List Value} (hr : (ntRow e).drop (j * 2) = a :: b :: post) :
    w.cell? ⟨gk, j * 2, none⟩ = some a ∧ w.cell? ⟨gk, j * 2 + 1, none⟩ = some b ∧ ∀ j, w.frozen? ⟨gk, j, none⟩ = false := by
  have hrow := h.nt
  rw [hr] at hrow
  have key : ∀ i, w.cell? ⟨gk, j * 2 + i, none⟩ = (a :: b :: post)[i]? := by
    intro i
    rw [cell_of_row _ _ _ _ _ _ hrow]
    simp only [List.getElem?_toArray]
    rw [List.getElem?_append_right (by rw [snRow_len]; omega), snRow_len, Nat.add_sub_cancel_left]
  exact ⟨key 0, key 1, fun j => frozen_of_row _ _ j _ _ hrow⟩
theorem NInv.spoil {w0 w : World} {g : Nat} {es : List En} {gs : List Nat} {k gk : Nat} {e : En} {j : Nat} (h : NInv w0 w g es gs k gk e j) {a b : Value} (hr : (ntRow e).drop (j * 2) = a :: b :: (ntRow e).drop ((j + 1) * 2))
    (hgk : gk ∈ gs) (hlo : ∀ x ∈ gs, g < x) (hlt : ∀ i (h' : i < gs.length), k + 1 ≤ i → gs[i] ≠ gk) :
    NInv w0 ((w.setCell ⟨gk, j * 2, none⟩ spoiltS).setCell ⟨gk, j * 2 + 1, none⟩ (.string ⟨#[]⟩)) g es gs k gk e (j + 1) := by
  have hrow := h.nt
  rw [hr] at hrow
  have h2 := store_two hrow (snRow_len j) spoiltS (.string ⟨#[]⟩)
  have hk : Kept (At gk) w ((w.setCell ⟨gk, j * 2, none⟩ spoiltS).setCell ⟨gk, j * 2 + 1, none⟩ (.string ⟨#[]⟩)) :=
    ((Kept.refl (At gk) w).setCell ⟨gk, j * 2, none⟩ (fun _ => rfl) _).setCell ⟨gk, j * 2 + 1, none⟩ (fun _ => rfl) _
  refine ⟨hk.heap h.row (fun x => ?_), ?_, fun i hi hi' hki => hk.heap (h.nts i hi hi' hki) (fun x => hlt i hi' hki x), h.kept.trans' hk (fun i _ x => .inr (by rw [show i = gk from x]; exact hgk))⟩
  · have := hlo _ hgk
    exact absurd (show g = gk from x) (by omega)
  · rw [h2, zRow_snoc, List.append_assoc]
    rfl

theorem SInv.notes {w0 w w' : World} {g : Nat} {es : List En} {gs : List Nat} {k : Nat} (h : SInv w0 w g es gs k) (hg : k < gs.length) (he : k < es.length) (hk : Kept NoB w w') : NInv w0 w' g es gs k gs[k] es[k] 0 := by
  refine ⟨hk.heapN h.row, ?_, fun i hi hi' hki => hk.heapN (h.nts i hi hi' (by omega)), h.kept.trans' hk (fun _ _ x => x.elim)⟩
  have := hk.heapN (h.nts k he hg (Nat.le_refl _))
  simpa [zRow] using this
theorem inc_ne {gs : List Nat} (h : gs.Pairwise (· < ·)) {k i : Nat} (hk : k < gs.length) (hi : i < gs.length) (hki : k + 1 ≤ i) : gs[i] ≠ gs[k] := by
  have := List.pairwise_iff_getElem.1 h k i hk hi (by omega)
  omega
theorem EntsAt.field4 {w : World} {b o cap : Nat} {zs : List (En × Value)} (h : EntsAt w (.slice (some ⟨b, o, none⟩) zs.length cap) zs) (k : Nat) (hk : k < zs.length) : w.cell? ⟨b, o + k * 6 + 4, none⟩ = some zs[k].2 := by
  obtain ⟨b', o', e, hc⟩ := ents_at h k hk
  cases e
  exact hc 4 (by decide)
theorem NInv.six {w0 w : World} {g : Nat} {es : List En} {gs : List Nat} {k gk : Nat} {e : En} {j : Nat} (h : NInv w0 w g es gs k gk e j) {a0 a1 a2 a3 a4 a5 : Value} {post : List Value} (hr : (lentRow es gs).drop (k * 6) = a0 :: a1 :: a2 :: a3 :: a4 :: a5 :: post) :
    w.cell? ⟨g, k * 6, none⟩ = some a0 ∧ w.cell? ⟨g, k * 6 + 1, none⟩ = some a1 ∧ w.cell? ⟨g, k * 6 + 2, none⟩ = some a2 ∧ w.cell? ⟨g, k * 6 + 3, none⟩ = some a3 ∧ w.cell? ⟨g, k * 6 + 4, none⟩ = some a4 ∧ w.cell? ⟨g, k * 6 + 5, none⟩ = some a5 ∧ ∀ j, w.frozen? ⟨g, j, none⟩ = false := by
  have hrow := h.row
  rw [hr] at hrow
  have key : ∀ j, w.cell? ⟨g, k * 6 + j, none⟩ = (a0 :: a1 :: a2 :: a3 :: a4 :: a5 :: post)[j]? := by
    intro j
    rw [cell_of_row _ _ _ _ _ _ hrow]
    simp only [List.getElem?_toArray]
    rw [List.getElem?_append_right (by rw [sRow_len]; omega), sRow_len, Nat.add_sub_cancel_left]
  exact ⟨key 0, key 1, key 2, key 3, key 4, key 5, fun j => frozen_of_row _ _ j _ _ hrow⟩
theorem NInv.done {w0 w : World} {g : Nat} {es : List En} {gs : List Nat} {k gk : Nat} {e : En} {j : Nat} (h : NInv w0 w g es gs k gk e j) {a0 a1 a2 a3 a4 a5 : Value} (hr : (lentRow es gs).drop (k * 6) = a0 :: a1 :: a2 :: a3 :: a4 :: a5 :: (lentRow es gs).drop ((k + 1) * 6)) (hlo : ∀ x ∈ gs, g < x) :
    SInv w0 ((((((w.setCell ⟨g, k * 6, none⟩ spoiltS).setCell ⟨g, k * 6 + 1, none⟩ (.int .i64 0)).setCell ⟨g, k * 6 + 2, none⟩ (.int .i64 0)).setCell ⟨g, k * 6 + 3, none⟩ (.int .i64 0)).setCell ⟨g, k * 6 + 4, none⟩ (.slice none 0 0)).setCell ⟨g, k * 6 + 5, none⟩ (.string ⟨#[]⟩)) g es gs (k + 1) := by
  have hrow := h.row
  rw [hr] at hrow
  have h6 := store_six hrow (sRow_len k) spoiltS (.int .i64 0) (.int .i64 0) (.int .i64 0) (.slice none 0 0) (.string ⟨#[]⟩)
  have hk : Kept (At g) w ((((((w.setCell ⟨g, k * 6, none⟩ spoiltS).setCell ⟨g, k * 6 + 1, none⟩ (.int .i64 0)).setCell ⟨g, k * 6 + 2, none⟩ (.int .i64 0)).setCell ⟨g, k * 6 + 3, none⟩ (.int .i64 0)).setCell ⟨g, k * 6 + 4, none⟩ (.slice none 0 0)).setCell ⟨g, k * 6 + 5, none⟩ (.string ⟨#[]⟩)) :=
    ((((((Kept.refl (At g) w).setCell ⟨g, k * 6, none⟩ (fun _ => rfl) _).setCell ⟨g, k * 6 + 1, none⟩ (fun _ => rfl) _).setCell ⟨g, k * 6 + 2, none⟩ (fun _ => rfl) _).setCell ⟨g, k * 6 + 3, none⟩ (fun _ => rfl) _).setCell ⟨g, k * 6 + 4, none⟩ (fun _ => rfl) _).setCell ⟨g, k * 6 + 5, none⟩ (fun _ => rfl) _
  refine ⟨?_, fun i hi hi' hki => hk.heap (h.nts i hi hi' hki) (fun x => ?_), h.kept.trans' hk (fun i _ x => .inl x)⟩
  · rw [h6, zRow_snoc, List.append_assoc]
    rfl
  · have := hlo _ (List.getElem_mem hi')
    exact absurd (show gs[i] = g from x) (by omega)

set_option maxRecDepth 100000 in
set_option maxHeartbeats 16000000 in
theorem treeStays_any (zs : List (En × Value)) (vl : Value) (g : Nat) (gs : List Nat) (w0 w : World) (ha : EntsAt w0 vl zs) (hk0 : Kept NoB w0 w) (hg0 : w0.heap.size ≤ g) (hL : LentAt w g (zs.map (·.1)) gs) (hla : zs.length ≤ 2000000) (hn : ∀ z ∈ zs, z.1.notes.length ≤ 2000000) :
    Calls Tryd.prog 9 #[.slice (some ⟨g, 0, none⟩) zs.length (zs.length + 4), vl] w fun e w' => e = .returned (.bool true) ∧ Kept (LS g gs) w w' := by
  obtain ⟨ao, cap, rfl⟩ := ents_shape ha
  have HA := hide ha
  have HL := hide hL
  have HN := hide hn
  have HK0 := hide hk0
  have hwr : ∀ wr, Kept (LS g gs) w wr → Kept NoB w0 wr := fun wr h => hk0.trans' h (fun i hi x => by
    rcases x with x | x
    · omega
    · have := hL.lo i x; omega)
  have HWR := hide hwr
  clear ha hL hn hk0 hwr
  go_enter Tryd.func9, Tryd.ntmps9
  go_wp2_with fail
  go_loopw [6, 7] (fun b i wr => ∃ k : Nat, k ≤ zs.length + 4 ∧ b = .bool true ∧ i = .int .i64 k ∧ SInv w wr g (zs.map (·.1)) gs k) (fun _ i _ => zs.length + 4 - (intOf i).toNat)
  case atStart =>
    refine ⟨0, by omega, rfl, rfl, ?_, fun i hi hi' _ => HL.out.nts i hi hi', Kept.refl _ _⟩
    have := HL.out.row
    simpa [lentRow, zRow] using this
  case round =>
    obtain ⟨k, hk, rfl, rfl, hS⟩ := hrel
    by_cases hlt : k < zs.length
    · have hgl : k < gs.length := by rw [HL.out.len]; simpa using hlt
      have hel : k < (zs.map (·.1)).length := by simpa using hlt
      have hr := lentRow_en (zs.map (·.1)) gs HL.out.len k hel hgl
      have hek : (zs.map (·.1))[k] = zs[k].1 := by simp
      rw [hek] at hr
      obtain ⟨c0, c1, c2, c3, c4, c5, cf⟩ := hS.six hr
      have hnt := hS.nts k hel hgl (Nat.le_refl _)
      rw [hek] at hnt
      have hw0r := HWR.out wr hS.kept
      obtain ⟨b, o, rfl, hcell⟩ := ents_at (HA.out.keptN hw0r) k hlt
      have hna := (HA.out.keptN hw0r).2 zs[k] (List.getElem_mem hlt)
      obtain ⟨nao, nac, hnv⟩ := notes_len hna
      have y0 := hcell 0 (by decide)
      have y1 := hcell 1 (by decide)
      have y2 := hcell 2 (by decide)
      have y3 := hcell 3 (by decide)
      have y4 := hcell 4 (by decide)
      have y5 := hcell 5 (by decide)
      simp [enCells, hnv] at y0 y1 y2 y3 y4 y5
      rw [hnv] at hna
      have hnb : NotesAt wr (nSl zs[k].1 gs[k]) zs[k].1.notes := CellsAt.ofRow hnt 2 _ _ _ (flat_len ntCells 2 (fun _ => rfl) _) (by omega) (fun j hj => by
        unfold ntRow
        rw [List.getElem?_append_left (by rw [flat_len ntCells 2 (fun _ => rfl)]; exact hj)])
      have hnl := HN.out zs[k] (List.getElem_mem hlt)
      have HNA := hide hna
      have HNB := hide hnb
      have HS := hide hS
      have HR := hide hr
      unfold nSl at c4
      have x0 := KW.cell c0
      have x1 := KW.cell c1
      have x2 := KW.cell c2
      have x3 := KW.cell c3
      have x4 := KW.cell c4
      have x5 := KW.cell c5
      have z0 := KW.cell y0
      have z1 := KW.cell y1
      have z2 := KW.cell y2
      have z3 := KW.cell y3
      have z4 := KW.cell y4
      have z5 := KW.cell y5
      have hne := KW.ne wr
      have HC4 := hide c4
      have HY4 := hide y4
      have HNV := hide hnv
      clear hS hr hcell hna hnb hnt hnv hek hel c0 c1 c2 c3 c4 c5 cf y0 y1 y2 y3 y4 y5 hw0r
      go_wp2_with fail
      refine wp_region_kw (by kernel_rfl) (by kernel_rfl) ?_
      repeat (any_goals (go_big_quiet_step ((go_at_call 21; exact calls_kw (alikeEntry_any zs[k].1 _ _ _ (CellsAt.keptN HNB.out (by decide) (KW.h _)) (CellsAt.keptN HNA.out (by decide) (KW.h _)) (by omega))))))
      refine wpQuiet_nil ?_
      intro _ hw'
      obtain ⟨xq, hw''⟩ := hw'
      subst hw''
      clear x0 x1 x2 x3 x4 x5 z0 z1 z2 z3 z4 z5 hne
      have c4 := xq.h.cellN HC4.out
      have y4 := xq.h.cellN HY4.out
      go_wp2_with fail
      go_quiet (fail)
      go_wp2_with fail
      have hN0 := HS.out.notes hgl (by simpa using hlt) (xq.h.drewN nq)
      rw [show (zs.map (·.1))[k]'(by simpa using hlt) = zs[k].1 by simp] at hN0
      generalize xq.w.drewN nq = wq at hN0 ⊢
      have HGK := hide (List.getElem_mem hgl)
      have HNE := hide (fun i (h' : i < gs.length) (hi : k + 1 ≤ i) => inc_ne HL.out.inc hgl h' hi)
      generalize hGK : gs[k] = gk at *
      have HGG := hide hGK
      clear hGK c4 y4
      go_loopw [6, 10] (fun b i w2 => ∃ j : Nat, j ≤ zs[k].1.notes.length + 4 ∧ b = .bool true ∧ i = .int .i64 j ∧ NInv w w2 g (zs.map (·.1)) gs k gk zs[k].1 j) (fun _ i _ => zs[k].1.notes.length + 4 - (intOf i).toNat)
      case atStart => exact ⟨0, by omega, rfl, rfl, hN0⟩
      case round =>
        obtain ⟨j, hj, rfl, rfl, hI⟩ := hrel
        rename World => w2
        have y4 := ((HA.out.keptN (HWR.out w2 hI.kept)).field4 k hlt).trans (congrArg some HNV.out)
        by_cases hj1 : j < zs[k].1.notes.length
        · have hr2 := ntRow_at zs[k].1 j hj1
          obtain ⟨d0, d1, df⟩ := hI.two hr2
          have HI := hide hI
          have HR2 := hide hr2
          have hge : decide (zs[k].1.notes.length ≤ j) = false := by simp; omega
          clear hI hr2
          go_wp2_with fail
          go_roundw
          case rel => exact ⟨j + 1, by omega, rfl, by go_num, HI.out.spoil HR2.out HGK.out HL.out.lo HNE.out⟩
          case measure => simp [intOf]; omega
        · by_cases hj2 : j < zs[k].1.notes.length + 4
          · obtain ⟨q, rfl⟩ : ∃ q, j = zs[k].1.notes.length + q := ⟨j - zs[k].1.notes.length, by omega⟩
            have hr2 := ntRow_z zs[k].1 q (by omega)
            obtain ⟨d0, d1, df⟩ := hI.two hr2
            have HI := hide hI
            have HR2 := hide hr2
            clear hI hr2
            go_wp2_with fail
            go_roundw
            case rel => exact ⟨zs[k].1.notes.length + q + 1, by omega, rfl, by go_num, HI.out.spoil HR2.out HGK.out HL.out.lo HNE.out⟩
            case measure => simp [intOf]; omega
          · obtain ⟨c0, c1, c2, c3, c4, c5, cf⟩ := hI.six HR.out
            have HI := hide hI
            clear hI
            go_wp2_with fail
            go_roundw
            case rel => exact ⟨k + 1, by omega, rfl, by go_num, HI.out.done HR.out HL.out.lo⟩
            case measure => simp [intOf]; omega
    · by_cases hlt4 : k < zs.length + 4
      · obtain ⟨m, rfl⟩ : ∃ m, k = zs.length + m := ⟨k - zs.length, by omega⟩
        have hr := lentRow_b (zs.map (·.1)) gs HL.out.len m (by omega)
        rw [List.length_map] at hr
        obtain ⟨c0, c1, c2, c3, c4, c5, cf⟩ := hS.six hr
        have HS := hide hS
        have HR := hide hr
        replace c0 : wr.cell? ⟨g, (zs.length + m) * 6, none⟩ = some (.string ⟨#[98, 101, 121, 111, 110, 100]⟩) := c0
        replace c5 : wr.cell? ⟨g, (zs.length + m) * 6 + 5, none⟩ = some (.string ⟨#[]⟩) := c5
        have hlt' : ¬ (zs.length + m < zs.length) := by omega
        clear hS hr
        go_wp2_with fail
        go_roundw
        case rel => exact ⟨zs.length + m + 1, by omega, rfl, by go_num, HS.out.spoil HR.out HL.out.lo⟩
        case measure => simp [intOf]; omega
      · go_wp2_with fail
        go_ret
        exact ⟨rfl, hS.kept⟩
end Go.Proofs.YtidioioldlmciaaDoor
