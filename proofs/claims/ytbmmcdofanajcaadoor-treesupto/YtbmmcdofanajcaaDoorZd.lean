import Derived.Test.YtbmmcdofanajcaaDoorZc
namespace Go.Proofs.YtbmmcdofanajcaaDoor
open Go.RowKit

theorem owns_lower {w : World} {B C : Nat} {e : TypeId} {sz : Nat} {v : Value} {n : Nat} {xs : List Value} (h : w.ownsRow B e sz v n xs) (hC : C ≤ B) : w.ownsRow C e sz v n xs := by
  refine ⟨h.1, ?_⟩
  rcases h.2 with h0 | ⟨g, cap, cur, h1, h2, h3⟩
  · exact .inl h0
  · exact .inr ⟨g, cap, cur, h1, Nat.le_trans hC h2, h3⟩
/-- one entry as silt's reader reads it -/
def sEnt (s : List UInt8 × Bool) : En × (List UInt8 × Bool) :=
  (⟨⟨(stext 1 (snum 1 s).2).1.toArray⟩, (snum 1 s).1, (snum 2 (stext 1 (snum 1 s).2).2).1, (snum 5 (snum 2 (stext 1 (snum 1 s).2).2).2).1,
    (sNotes (snum 1 (snum 5 (snum 2 (stext 1 (snum 1 s).2).2).2).2).1 (snum 1 (snum 5 (snum 2 (stext 1 (snum 1 s).2).2).2).2).2).1,
    ⟨(stext 4 (sNotes (snum 1 (snum 5 (snum 2 (stext 1 (snum 1 s).2).2).2).2).1 (snum 1 (snum 5 (snum 2 (stext 1 (snum 1 s).2).2).2).2).2).2).1.toArray⟩⟩,
   (stext 4 (sNotes (snum 1 (snum 5 (snum 2 (stext 1 (snum 1 s).2).2).2).2).1 (snum 1 (snum 5 (snum 2 (stext 1 (snum 1 s).2).2).2).2).2).2).2)
theorem sNotes_len : ∀ (c : Nat) (s : List UInt8 × Bool), (sNotes c s).2.1.length ≤ s.1.length
  | 0, _ => Nat.le_refl _
  | c + 1, _ => Nat.le_trans (sNotes_len c _) (Nat.le_trans (stext_len _ _) (stext_len _ _))

/-- where reader.entry stands: two boxes, the reader behind them -/
structure EntS (w : World) (rb g : Nat) (c : Array Value) (wr : World) (s : List UInt8 × Bool) : Prop where
  b0 : wr.heap[g]? = some (.cells #[.string ⟨#[]⟩, .int .i64 0, .int .i64 0, .int .i64 0, .slice none 0 0, .string ⟨#[]⟩] 55 (0, 0))
  b1 : wr.heap[g + 1]? = some (.cells c 55 (0, 0))
  rd : ReadAt wr rb s
  kept : Kept (At rb) w wr
  lt : rb < g
  gw : g = w.heap.size
theorem EntS.call {w : World} {rb g : Nat} {c : Array Value} {wr w2 : World} {s s2 : List UInt8 × Bool} (h : EntS w rb g c wr s) (hr : ReadAt w2 rb s2) (hk : Kept (At rb) wr w2) : EntS w rb g c w2 s2 :=
  ⟨hk.heap h.b0 (fun hx => by have := h.lt; unfold At at hx; omega), hk.heap h.b1 (fun hx => by have := h.lt; unfold At at hx; omega), hr, h.kept.trans hk, h.lt, h.gw⟩
theorem EntS.put {w : World} {rb g : Nat} {c : Array Value} {wr : World} {s : List UInt8 × Bool} (h : EntS w rb g c wr s) (i : Nat) (y : Value) : EntS w rb g (c.setIfInBounds i y) (wr.setCell ⟨g + 1, i, none⟩ y) s := by
  have hk : Kept (At (g + 1)) wr (wr.setCell ⟨g + 1, i, none⟩ y) := (Kept.refl (At (g + 1)) wr).setCell ⟨g + 1, i, none⟩ (fun _ => rfl) _
  refine ⟨hk.heap h.b0 (fun hx => by unfold At at hx; omega), heap_setCell_same _ _ _ _ _ _ h.b1, h.rd.keep hk (fun k hx => by have := h.lt; unfold At at hx; omega), h.kept.trans' hk (fun k hk' hx => by have := h.gw; unfold At at hx; omega), h.lt, h.gw⟩

set_option maxRecDepth 100000 in
set_option maxHeartbeats 16000000 in
theorem rentry_any (s : List UInt8 × Bool) (rb : Nat) (w : World) (hs : s.1.length ≤ 100000000) (hr : ReadAt w rb s) :
    Calls Tryd.prog 33 #[.pointer (some ⟨rb, 0, none⟩)] w fun e w' => ∃ vn, e = .returned (enVal (sEnt s).1 vn) ∧ w'.ownsRow w.heap.size 59 2 vn (sEnt s).1.notes.length ((sEnt s).1.notes.flatMap ntCells) ∧ ReadAt w' rb (sEnt s).2 ∧ Kept (At rb) w w' := by
  have hrb := hr.lt
  have HR := hide hr
  clear hr
  obtain ⟨g, hg⟩ : ∃ g, g = w.heap.size := ⟨_, rfl⟩
  unfold sEnt
  have hl1 := snum_len 1 s
  have HC1 : Hid (∀ wx, ReadAt wx rb s → Calls Tryd.prog 40 #[.pointer (some ⟨rb, 0, none⟩), .int .i64 1] wx fun e w' => e = .returned (.int .i64 (snum 1 s).1) ∧ ReadAt w' rb (snum 1 s).2 ∧ Kept (At rb) wx w') := fun wx hr => number_any 1 s rb wx (by omega) (by omega) hr
  generalize snum 1 s = S1 at *
  obtain ⟨x1, s1⟩ := S1
  simp only at hl1 HC1 ⊢
  have hl2 := stext_len 1 s1
  have HC2 : Hid (∀ wx, ReadAt wx rb s1 → Calls Tryd.prog 41 #[.pointer (some ⟨rb, 0, none⟩), .int .i64 1] wx fun e w' => e = .returned (.string ⟨(stext 1 s1).1.toArray⟩) ∧ ReadAt w' rb (stext 1 s1).2 ∧ Kept (At rb) wx w') := fun wx hr => text_any 1 s1 rb wx (by omega) (by omega) hr
  generalize stext 1 s1 = S2 at *
  obtain ⟨x2, s2⟩ := S2
  simp only at hl2 HC2 ⊢
  have hl3 := snum_len 2 s2
  have HC3 : Hid (∀ wx, ReadAt wx rb s2 → Calls Tryd.prog 40 #[.pointer (some ⟨rb, 0, none⟩), .int .i64 2] wx fun e w' => e = .returned (.int .i64 (snum 2 s2).1) ∧ ReadAt w' rb (snum 2 s2).2 ∧ Kept (At rb) wx w') := fun wx hr => number_any 2 s2 rb wx (by omega) (by omega) hr
  generalize snum 2 s2 = S3 at *
  obtain ⟨x3, s3⟩ := S3
  simp only at hl3 HC3 ⊢
  have hl4 := snum_len 5 s3
  have HC4 : Hid (∀ wx, ReadAt wx rb s3 → Calls Tryd.prog 40 #[.pointer (some ⟨rb, 0, none⟩), .int .i64 5] wx fun e w' => e = .returned (.int .i64 (snum 5 s3).1) ∧ ReadAt w' rb (snum 5 s3).2 ∧ Kept (At rb) wx w') := fun wx hr => number_any 5 s3 rb wx (by omega) (by omega) hr
  generalize snum 5 s3 = S4 at *
  obtain ⟨x4, s4⟩ := S4
  simp only at hl4 HC4 ⊢
  have hl5 := snum_len 1 s4
  have hl6 := sNotes_len (snum 1 s4).1 (snum 1 s4).2
  have HC5 : Hid (∀ wx, ReadAt wx rb s4 → Calls Tryd.prog 42 #[.pointer (some ⟨rb, 0, none⟩)] wx fun e w' => ∃ v ns, ns = (sNotes (snum 1 s4).1 (snum 1 s4).2).1 ∧ e = .returned v ∧ w'.ownsRow wx.heap.size 59 2 v ns.length (ns.flatMap ntCells) ∧ ReadAt w' rb (sNotes (snum 1 s4).1 (snum 1 s4).2).2 ∧ Kept (At rb) wx w') := fun wx hr => rnotes_any s4 rb wx (by omega) hr
  generalize sNotes (snum 1 s4).1 (snum 1 s4).2 = S5 at *
  obtain ⟨x5, s5⟩ := S5
  simp only at hl6 HC5 ⊢
  have hl7 := stext_len 4 s5
  have HC6 : Hid (∀ wx, ReadAt wx rb s5 → Calls Tryd.prog 41 #[.pointer (some ⟨rb, 0, none⟩), .int .i64 4] wx fun e w' => e = .returned (.string ⟨(stext 4 s5).1.toArray⟩) ∧ ReadAt w' rb (stext 4 s5).2 ∧ Kept (At rb) wx w') := fun wx hr => text_any 4 s5 rb wx (by omega) (by omega) hr
  generalize stext 4 s5 = S6 at *
  obtain ⟨x6, s6⟩ := S6
  simp only at hl7 HC6 ⊢
  go_enter Tryd.func33, Tryd.ntmps33
  go_wp2_with fail
  have hS : EntS w rb g #[.string ⟨#[]⟩, .int .i64 0, .int .i64 0, .int .i64 0, .slice none 0 0, .string ⟨#[]⟩] ((w.alloc (.cells #[.string ⟨#[]⟩, .int .i64 0, .int .i64 0, .int .i64 0, .slice none 0 0, .string ⟨#[]⟩] 55)).alloc (.cells #[.string ⟨#[]⟩, .int .i64 0, .int .i64 0, .int .i64 0, .slice none 0 0, .string ⟨#[]⟩] 55)) s :=
    ⟨by rw [hg]; exact heap_alloc2_old w _ _, by rw [hg]; exact heap_alloc2_new w _ _, HR.out.keep (((Kept.refl NoB w).alloc _).alloc _) (fun _ x => absurd x (fun y => y)), ((Kept.refl _ w).alloc _).alloc _, by omega, hg⟩
  rw [← hg]
  have H0 := hide hS
  generalize ((w.alloc (.cells #[.string ⟨#[]⟩, .int .i64 0, .int .i64 0, .int .i64 0, .slice none 0 0, .string ⟨#[]⟩] 55)).alloc (.cells #[.string ⟨#[]⟩, .int .i64 0, .int .i64 0, .int .i64 0, .slice none 0 0, .string ⟨#[]⟩] 55)) = W0 at *
  have HG := hide hg
  clear hS hg HR
  refine (HC1.out W0 H0.out.rd).mono ?_
  rintro r w1 ⟨rfl, hr1, hk1⟩
  have G1 := hide (H0.out.call hr1 hk1)
  have H1 := hide (G1.out.put 1 (.int .i64 x1))
  clear hr1 hk1 HC1 H0
  obtain ⟨c0, c1, c2, c3, c4, c5, cf⟩ := box_cells G1.out.b1
  go_wp2_with fail
  clear c0 c1 c2 c3 c4 c5 cf G1
  generalize w1.setCell ⟨g + 1, 1, none⟩ (.int .i64 x1) = W1 at *
  simp only [List.setIfInBounds_toArray, List.set_cons_zero, List.set_cons_succ] at H1
  refine (HC2.out W1 H1.out.rd).mono ?_
  rintro r w2 ⟨rfl, hr2, hk2⟩
  have G2 := hide (H1.out.call hr2 hk2)
  have H2 := hide (G2.out.put 0 (.string ⟨x2.toArray⟩))
  clear hr2 hk2 HC2 H1
  obtain ⟨c0, c1, c2, c3, c4, c5, cf⟩ := box_cells G2.out.b1
  go_wp2_with fail
  clear c0 c1 c2 c3 c4 c5 cf G2
  generalize w2.setCell ⟨g + 1, 0, none⟩ (.string ⟨x2.toArray⟩) = W2 at *
  simp only [List.setIfInBounds_toArray, List.set_cons_zero] at H2
  refine (HC3.out W2 H2.out.rd).mono ?_
  rintro r w3 ⟨rfl, hr3, hk3⟩
  have G3 := hide (H2.out.call hr3 hk3)
  have H3 := hide (G3.out.put 2 (.int .i64 x3))
  clear hr3 hk3 HC3 H2
  obtain ⟨c0, c1, c2, c3, c4, c5, cf⟩ := box_cells G3.out.b1
  go_wp2_with fail
  clear c0 c1 c2 c3 c4 c5 cf G3
  generalize w3.setCell ⟨g + 1, 2, none⟩ (.int .i64 x3) = W3 at *
  simp only [List.setIfInBounds_toArray, List.set_cons_zero, List.set_cons_succ] at H3
  refine (HC4.out W3 H3.out.rd).mono ?_
  rintro r w4 ⟨rfl, hr4, hk4⟩
  have G4 := hide (H3.out.call hr4 hk4)
  have H4 := hide (G4.out.put 3 (.int .i64 x4))
  clear hr4 hk4 HC4 H3
  obtain ⟨c0, c1, c2, c3, c4, c5, cf⟩ := box_cells G4.out.b1
  go_wp2_with fail
  clear c0 c1 c2 c3 c4 c5 cf G4
  generalize w4.setCell ⟨g + 1, 3, none⟩ (.int .i64 x4) = W4 at *
  simp only [List.setIfInBounds_toArray, List.set_cons_zero, List.set_cons_succ] at H4
  refine (HC5.out W4 H4.out.rd).mono ?_
  rintro r w5 ⟨vn, ns, hns, rfl, ho5, hr5, hk5⟩
  subst hns
  have G5 := hide (H4.out.call hr5 hk5)
  obtain ⟨nao, ncap, rfl⟩ := owns_shape ho5
  have H5 := hide (G5.out.put 4 (.slice nao ns.length ncap))
  have hsz4 : g + 1 < W4.heap.size := (Array.getElem?_eq_some_iff.1 H4.out.b1).1
  have HO5 : Hid ((w5.setCell ⟨g + 1, 4, none⟩ (.slice nao ns.length ncap)).ownsRow W4.heap.size 59 2 (.slice nao ns.length ncap) ns.length (ns.flatMap ntCells)) := by
    have hk : Kept (At (g + 1)) w5 (w5.setCell ⟨g + 1, 4, none⟩ (.slice nao ns.length ncap)) := (Kept.refl (At (g + 1)) w5).setCell ⟨g + 1, 4, none⟩ (fun _ => rfl) _
    exact hk.owns ho5 (fun k hk' hx => by have := (ho5.lt k hk').1; unfold At at hx; omega)
  have hgW : w.heap.size ≤ W4.heap.size := H4.out.kept.size
  have hlt4 := H4.out.lt
  clear hr5 hk5 HC5 H4 ho5
  obtain ⟨c0, c1, c2, c3, c4, c5, cf⟩ := box_cells G5.out.b1
  go_wp2_with fail
  clear c0 c1 c2 c3 c4 c5 cf G5
  generalize w5.setCell ⟨g + 1, 4, none⟩ (.slice nao ns.length ncap) = W5 at *
  simp only [List.setIfInBounds_toArray, List.set_cons_zero, List.set_cons_succ] at H5
  refine (HC6.out W5 H5.out.rd).mono ?_
  rintro r w6 ⟨rfl, hr6, hk6⟩
  have G6 := hide (H5.out.call hr6 hk6)
  have H6 := hide (G6.out.put 5 (.string ⟨x6.toArray⟩))
  have HO6 : Hid ((w6.setCell ⟨g + 1, 5, none⟩ (.string ⟨x6.toArray⟩)).ownsRow W4.heap.size 59 2 (.slice nao ns.length ncap) ns.length (ns.flatMap ntCells)) := by
    have h1 := hk6.owns HO5.out (fun k hk' hx => by have := (HO5.out.lt k hk').1; unfold At at hx; omega)
    have hk : Kept (At (g + 1)) w6 (w6.setCell ⟨g + 1, 5, none⟩ (.string ⟨x6.toArray⟩)) := (Kept.refl (At (g + 1)) w6).setCell ⟨g + 1, 5, none⟩ (fun _ => rfl) _
    exact hk.owns h1 (fun k hk' hx => by have := (h1.lt k hk').1; unfold At at hx; omega)
  clear hr6 hk6 HC6 H5 HO5
  obtain ⟨c0, c1, c2, c3, c4, c5, cf⟩ := box_cells G6.out.b1
  have H6' := H6.out
  simp only [List.setIfInBounds_toArray, List.set_cons_zero, List.set_cons_succ] at H6'
  obtain ⟨e0, e1, e2, e3, e4, e5, ef⟩ := box_cells H6'.b1
  obtain ⟨d0, d1, d2, d3, d4, d5, df⟩ := box_cells H6'.b0
  have HH := hide H6'
  clear H6' H6
  go_wp2_with fail
  (try simp only [Exit.inBlock, Exit.then])
  have hfin := six_set (.string ⟨x2.toArray⟩) (.int .i64 x1) (.int .i64 x3) (.int .i64 x4) (.slice nao ns.length ncap) (.string ⟨x6.toArray⟩) HH.out.b0
  have hres : Tryd.f33.results = #[.cell 2 55] := by kernel_rfl
  refine bodyPost_ret (results_cell_row hres _ _ g 55 _ (0, 0) _ rfl hfin Tryd.underlying55 rfl (by kernel_rfl)) rfl ?_
  have hkg : Kept (At g) (w6.setCell ⟨g + 1, 5, none⟩ (.string ⟨x6.toArray⟩)) ((((((w6.setCell ⟨g + 1, 5, none⟩ (.string ⟨x6.toArray⟩)).setCell ⟨g, 0, none⟩ (.string ⟨x2.toArray⟩)).setCell ⟨g, 1, none⟩ (.int .i64 x1)).setCell ⟨g, 2, none⟩ (.int .i64 x3)).setCell ⟨g, 3, none⟩ (.int .i64 x4)).setCell ⟨g, 4, none⟩ (.slice nao ns.length ncap) |>.setCell ⟨g, 5, none⟩ (.string ⟨x6.toArray⟩)) :=
    ((((((Kept.refl (At g) _).setCell ⟨g, 0, none⟩ (fun _ => rfl) _).setCell ⟨g, 1, none⟩ (fun _ => rfl) _).setCell ⟨g, 2, none⟩ (fun _ => rfl) _).setCell ⟨g, 3, none⟩ (fun _ => rfl) _).setCell ⟨g, 4, none⟩ (fun _ => rfl) _).setCell ⟨g, 5, none⟩ (fun _ => rfl) _
  refine ⟨.slice nao ns.length ncap, rfl, ?_, HH.out.rd.keep hkg (fun k hx => by unfold At at hx; omega), HH.out.kept.trans' hkg (fun k hk' hx => by have := HG.out; unfold At at hx; omega)⟩
  have h1 := hkg.owns HO6.out (fun k hk' hx => by have := (HO6.out.lt k hk').1; unfold At at hx; omega)
  exact owns_lower h1 hgW
end Go.Proofs.YtbmmcdofanajcaaDoor
