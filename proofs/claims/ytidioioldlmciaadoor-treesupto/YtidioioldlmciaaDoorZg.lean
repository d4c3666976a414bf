import Derived.Test.YtidioioldlmciaaDoorZf
namespace Go.Proofs.YtidioioldlmciaaDoor
open Go.RowKit

theorem lentZ_length (es : List En) (gs : List Nat) (h : gs.length = es.length) : (lentZ es gs).length = es.length := by
  unfold lentZ
  rw [List.length_zipWith, h, Nat.min_self]
theorem lentZ_fst (es : List En) (gs : List Nat) (h : gs.length = es.length) : (lentZ es gs).map (·.1) = es := by
  apply List.ext_getElem
  · rw [List.length_map, lentZ_length es gs h]
  · intro i h1 h2
    simp [lentZ]
/-- what was lent are entries -/
theorem LentAt.ents {w : World} {g : Nat} {es : List En} {gs : List Nat} (h : LentAt w g es gs) : EntsAt w (.slice (some ⟨g, 0, none⟩) es.length (es.length + 4)) (lentZ es gs) := by
  have hl := lentZ_length es gs h.len
  constructor
  · refine ⟨by rw [flat_len enCells 6 (fun _ => rfl)], some ⟨g, 0, none⟩, es.length + 4, by rw [hl], by omega, fun h0 => ⟨g, 0, rfl, fun j hj => ?_⟩⟩
    rw [Nat.zero_add, cell_of_row _ _ _ _ _ _ h.row, List.getElem?_toArray, List.getElem?_append_left (by rw [flat_len enCells 6 (fun _ => rfl)]; exact hj)]
  · intro z hz
    obtain ⟨i, hi, rfl⟩ := List.getElem_of_mem hz
    rw [hl] at hi
    have hi2 : i < gs.length := by rw [h.len]; exact hi
    have e : (lentZ es gs)[i]'(by rw [hl]; exact hi) = (es[i], nSl es[i] gs[i]) := by simp [lentZ]
    rw [e]
    have hr := h.nts i hi hi2
    refine ⟨by rw [flat_len ntCells 2 (fun _ => rfl)], some ⟨gs[i], 0, none⟩, es[i].notes.length + 4, rfl, Nat.le_add_right _ _, fun h0 => ⟨gs[i], 0, rfl, fun j hj => ?_⟩⟩
    rw [Nat.zero_add, cell_of_row _ _ _ _ _ _ hr, List.getElem?_toArray]
    unfold ntRow
    rw [List.getElem?_append_left (by rw [flat_len ntCells 2 (fun _ => rfl)]; exact hj)]

/-- each entry has many bytes, so a tree has few entries -/
theorem stream_many (es : List En) : 14 * es.length ≤ (streamB es).length := by
  induction es with
  | nil => simp [streamB]
  | cons e es ih =>
    have h1 : streamB (e :: es) = enBytes e ++ streamB es := rfl
    have h2 : 14 ≤ (enBytes e).length := by
      unfold enBytes headBytes
      simp only [List.length_append, numB_len]
      omega
    rw [h1, List.length_append, List.length_cons]
    omega
theorem treeAns_small (l : List UInt8) : (treeAns l).1.length ≤ 4700 ∧ ∀ e ∈ (treeAns l).1, e.notes.length ≤ 4 := by
  unfold treeAns
  by_cases h1 : l.length > 65536
  · rw [if_pos h1]; simp
  · rw [if_neg h1]
    by_cases h2 : (refAll (l.length + 1) (l, false)).2 = true
    · rw [if_pos h2]; simp
    · rw [if_neg h2]
      by_cases h3 : isTreeB (refAll (l.length + 1) (l, false)).1 = false
      · rw [if_pos h3]; simp
      · rw [if_neg h3]
        have h4 := (refAll_ok (l.length + 1) (l, false) (by simp) (by simpa using h2)).2
        have h5 := stream_many (refAll (l.length + 1) (l, false)).1
        have h6 : l = streamB (refAll (l.length + 1) (l, false)).1 := h4
        rw [← h6] at h5
        have h7 : isTreeB (refAll (l.length + 1) (l, false)).1 = true := by simpa using h3
        refine ⟨by simp only; omega, fun e he => ?_⟩
        obtain ⟨i, hi, rfl⟩ := List.getElem_of_mem he
        have h8 := isTree_at h7 i hi
        exact (entry_bounds ((treeAt_iff _ i hi).1 h8).1).2.2.2.2.2.2.2
end Go.Proofs.YtidioioldlmciaaDoor
