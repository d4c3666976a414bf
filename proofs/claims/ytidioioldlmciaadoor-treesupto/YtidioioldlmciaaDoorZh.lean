import Derived.Test.YtidioioldlmciaaDoorZg
namespace Go.Proofs.YtidioioldlmciaaDoor
open Go.RowKit

theorem BookAt.fresh {w : World} {B ob : Nat} {vb vt vn : Value} {lb lt ln : List Value} (h : BookAt w B ob vb vt vn lb lt ln) {w' : World} (hw : w.heap.size ≤ w'.heap.size) {W : World} {e : TypeId} {sz : Nat} {v : Value} {n : Nat} {xs : List Value} (hv : W.ownsRow w'.heap.size e sz v n xs) :
    (∀ i (hi : i < lb.length), ∀ k, lb[i].ownBlock = some k → v.ownBlock ≠ some k) ∧ (∀ i (hi : i < lt.length), ∀ k, lt[i].ownBlock = some k → v.ownBlock ≠ some k) ∧ (∀ i (hi : i < ln.length), ∀ k, ln[i].ownBlock = some k → v.ownBlock ≠ some k) := by
  refine ⟨fun i hi k hk hx => ?_, fun i hi k hk hx => ?_, fun i hi k hk hx => ?_⟩
  · obtain ⟨m, hm⟩ := h.bs i hi
    have a := (hm.lt k hk).2
    have b := (hv.lt k hx).1
    omega
  · obtain ⟨m, hm⟩ := h.ts i hi
    have a := (hm.lt k hk).2
    have b := (hv.lt k hx).1
    omega
  · obtain ⟨m, hm⟩ := h.ns i hi
    have a := (hm.lt k hk).2
    have b := (hv.lt k hx).1
    omega
theorem book_new (w : World) : BookAt (w.alloc (.cells #[.slice none 0 0, .slice none 0 0, .slice none 0 0, .slice none 0 0] 29)) w.heap.size w.heap.size (.slice none 0 0) (.slice none 0 0) (.slice none 0 0) [] [] [] :=
  ⟨heap_alloc_new w _, Nat.le_refl _, ⟨rfl, .inl ⟨rfl, rfl⟩⟩, ⟨rfl, .inl ⟨rfl, rfl⟩⟩, ⟨rfl, .inl ⟨rfl, rfl⟩⟩, fun _ h => absurd h (Nat.not_lt_zero _), fun _ h => absurd h (Nat.not_lt_zero _), fun _ h => absurd h (Nat.not_lt_zero _)⟩
/-- only what is fresh is written: the book stays -/
theorem BookAt.keepUp {S : Nat → Prop} {w w1 w' : World} {B ob : Nat} {vb vt vn : Value} {lb lt ln : List Value} (h : BookAt w B ob vb vt vn lb lt ln) (hk : Kept NoB w w1) (hk2 : Kept S w1 w') (hS : ∀ k, S k → w.heap.size ≤ k) : BookAt w' B ob vb vt vn lb lt ln :=
  h.keepN (hk.trans' hk2 (fun i hi hx => by have := hS i hx; omega))
theorem lent_bytes {w : World} {g : Nat} {s : ByteArray} (h : w.heap[g]? = some (.cells (byteCells s ++ room77).toArray 5 (0, 0))) : BytesAt w (.slice (some ⟨g, 0, none⟩) s.size (s.size + 4)) s.data.toList := by
  refine ⟨by rw [byteL_len, Nat.mul_one], some ⟨g, 0, none⟩, s.size + 4, by rw [← Lib.size_eq], by rw [← Lib.size_eq]; omega, fun _ => ⟨g, 0, rfl, fun j hj => ?_⟩⟩
  rw [Nat.zero_add, cell_of_row _ _ _ _ _ _ h, List.getElem?_toArray, byteCells_eq, List.getElem?_append_left (by rw [byteL_len]; omega)]
end Go.Proofs.YtidioioldlmciaaDoor
