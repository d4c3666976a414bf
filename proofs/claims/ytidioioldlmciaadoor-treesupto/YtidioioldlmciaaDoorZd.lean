import Derived.Test.YtidioioldlmciaaDoorZc
import Derived.Deep.Cut
namespace Go.Proofs.YtidioioldlmciaaDoor
open Go.RowKit

theorem owns_lower {w : World} {B C : Nat} {e : TypeId} {sz : Nat} {v : Value} {n : Nat} {xs : List Value} (h : w.ownsRow B e sz v n xs) (hC : C ≤ B) : w.ownsRow C e sz v n xs := by
  refine ⟨h.1, ?_⟩
  rcases h.2 with h0 | ⟨g, cap, cur, h1, h2, h3⟩
  · exact .inl h0
  · exact .inr ⟨g, cap, cur, h1, Nat.le_trans hC h2, h3⟩
/-- a head as silt's reader reads it: the entry without its content, the content's length -/
def nHead (s : List UInt8 × Bool) : En × Nat × (List UInt8 × Bool) :=
  (⟨⟨(ntext 1 (nnum 1 s).2).1.toArray⟩, (nnum 1 s).1, (nnum 2 (ntext 1 (nnum 1 s).2).2).1, (nnum 5 (nnum 2 (ntext 1 (nnum 1 s).2).2).2).1,
    (nNotes (nnum 1 (nnum 5 (nnum 2 (ntext 1 (nnum 1 s).2).2).2).2).1 (nnum 1 (nnum 5 (nnum 2 (ntext 1 (nnum 1 s).2).2).2).2).2).1, ⟨#[]⟩⟩,
   (nnum 4 (nNotes (nnum 1 (nnum 5 (nnum 2 (ntext 1 (nnum 1 s).2).2).2).2).1 (nnum 1 (nnum 5 (nnum 2 (ntext 1 (nnum 1 s).2).2).2).2).2).2).1,
   (nnum 4 (nNotes (nnum 1 (nnum 5 (nnum 2 (ntext 1 (nnum 1 s).2).2).2).2).1 (nnum 1 (nnum 5 (nnum 2 (ntext 1 (nnum 1 s).2).2).2).2).2).2).2)
/-- a content of so many bytes -/
def blank (n : Nat) : ByteArray := ⟨(List.replicate n 0).toArray⟩
theorem blank_size (n : Nat) : (blank n).size = n := by unfold blank; rw [mk_size, List.length_replicate]
/-- may this head stand behind that entry? -/
def headOk (d : En) (h : En × Nat × (List UInt8 × Bool)) : Bool := !h.2.2.2 && (entryOk { h.1 with content := blank h.2.1 } && (followsB d h.1 && decide (h.2.1 ≤ h.2.2.1.length)))

theorem results_cell_tmp2 {P : Program} {fn : Func} {p u v : Tmp} {ty : TypeId} (h : fn.results = #[.cell p ty, .tmp u, .tmp v]) (tmps : Array Value) (w : World) (g : Nat) (t : TypeId) (cs : Array Value) (fr : Nat × Nat) (d : TypeDesc)
    (hp : tmps.getD p undef = .pointer (some ⟨g, 0, none⟩)) (hg : w.heap[g]? = some (.cells cs t fr))
    (hu : P.underlying ty = some d) (hd : (match d with | .struct _ | .array _ _ => true | _ => false) = true) (hi : (P.info? ty).map (·.size) = some cs.size) :
    (results fn tmps).run P w = .ok (.tuple #[.agg cs, tmps.getD u undef, tmps.getD v undef]) w := by
  have hp' : tmps[p]?.getD undef = .pointer (some ⟨g, 0, none⟩) := by simpa using hp
  simp [results, h, hp', asAddr, run_loadVar_row w g t ty cs fr d hg hu hd hi]

/-- where reader.head stands: two boxes, the reader behind them -/
structure EntS (w : World) (rb g : Nat) (l : List UInt8) (d : En) (dv : Value) (c : Array Value) (wr : World) (s : List UInt8 × Bool) : Prop where
  b0 : wr.heap[g]? = some (.cells #[.string ⟨#[]⟩, .int .i64 0, .int .i64 0, .int .i64 0, .slice none 0 0, .string ⟨#[]⟩] 55 (0, 0))
  b1 : wr.heap[g + 1]? = some (.cells c 55 (0, 0))
  rd : ReadAt wr rb l d dv s
  kept : Kept (At rb) w wr
  lt : rb < g
  gw : g = w.heap.size
theorem EntS.call {w : World} {rb g : Nat} {l : List UInt8} {d : En} {dv : Value} {c : Array Value} {wr w2 : World} {s s2 : List UInt8 × Bool} (h : EntS w rb g l d dv c wr s) (hr : ReadAt w2 rb l d dv s2) (hk : Kept (At rb) wr w2) : EntS w rb g l d dv c w2 s2 :=
  ⟨hk.heap h.b0 (fun hx => by have := h.lt; unfold At at hx; omega), hk.heap h.b1 (fun hx => by have := h.lt; unfold At at hx; omega), hr, h.kept.trans hk, h.lt, h.gw⟩
theorem EntS.put {w : World} {rb g : Nat} {l : List UInt8} {d : En} {dv : Value} {c : Array Value} {wr : World} {s : List UInt8 × Bool} (h : EntS w rb g l d dv c wr s) (i : Nat) (y : Value) : EntS w rb g l d dv (c.setIfInBounds i y) (wr.setCell ⟨g + 1, i, none⟩ y) s := by
  have hk : Kept (At (g + 1)) wr (wr.setCell ⟨g + 1, i, none⟩ y) := (Kept.refl (At (g + 1)) wr).setCell ⟨g + 1, i, none⟩ (fun _ => rfl) _
  refine ⟨hk.heap h.b0 (fun hx => by unfold At at hx; omega), heap_setCell_same _ _ _ _ _ _ h.b1, h.rd.keep hk (fun k hx => ?_), h.kept.trans' hk (fun k hk' hx => by have := h.gw; unfold At at hx; omega), h.lt, h.gw⟩
  unfold At at hx
  subst hx
  refine ⟨by have := h.lt; omega, fun c2 hc => ?_⟩
  rw [h.b1] at hc
  injection hc with hc
  injection hc with _ hc
  exact absurd hc (by decide)
theorem EntS.keepN {w : World} {rb g : Nat} {l : List UInt8} {d : En} {dv : Value} {c : Array Value} {wr w2 : World} {s : List UInt8 × Bool} (h : EntS w rb g l d dv c wr s) (hk : Kept NoB wr w2) : EntS w rb g l d dv c w2 s :=
  h.call (h.rd.keepN hk) (hk.mono (fun _ _ x => absurd x (fun y => y)))

theorem ntext_byte (s : List UInt8 × Bool) : (ntext 1 s).1.length < 256 := Nat.lt_of_le_of_lt (ntake_le _ _) (nnum_byte s)
theorem nNotes_count : ∀ (c : Nat) (s : List UInt8 × Bool), (nNotes c s).1.length = c
  | 0, _ => rfl
  | c + 1, _ => by rw [nNotes, List.length_cons, nNotes_count c]

theorem six_kept (w : World) (g : Nat) (o : Nat) (y0 y1 y2 y3 y4 y5 : Value) : Kept (At g) w ((((((w.setCell ⟨g, o, none⟩ y0).setCell ⟨g, o + 1, none⟩ y1).setCell ⟨g, o + 2, none⟩ y2).setCell ⟨g, o + 3, none⟩ y3).setCell ⟨g, o + 4, none⟩ y4).setCell ⟨g, o + 5, none⟩ y5) :=
  ((((((Kept.refl (At g) _).setCell ⟨g, o, none⟩ (fun _ => rfl) _).setCell ⟨g, o + 1, none⟩ (fun _ => rfl) _).setCell ⟨g, o + 2, none⟩ (fun _ => rfl) _).setCell ⟨g, o + 3, none⟩ (fun _ => rfl) _).setCell ⟨g, o + 4, none⟩ (fun _ => rfl) _).setCell ⟨g, o + 5, none⟩ (fun _ => rfl) _

theorem heap_drew (w : World) : w.drew.heap = w.heap := rfl
/-- a world in which all that was in w is as it was -/
structure KeptW (w : World) where
  x : World
  h : Kept NoB w x
/-- one walk of the lexical order serves every order, where calls make memory and change none -/
theorem wp_region_kept {P : Program} {id : Nat} {Q : Exit → Act → World → Prop} {a : Act} {w : World} {l : List Oper} (hm : P.follows .mixedOrders = true) (hB : Region.lexB .any l.toArray = true)
    (h : wpQuiet P l.toArray (fun w' => ∃ n : KeptW w, w' = n.x) (fun a' => ∀ w', (∃ n : KeptW w, w' = n.x) → Q .normal a' w') l a) : (Code.region id l.toArray true).wp P Q a w :=
  wp_region_quiet (C := fun w' => ∃ n : KeptW w, w' = n.x) hm hB ⟨⟨w.drew, (Kept.refl NoB w).drew⟩, rfl⟩ (by simpa using h)
theorem KeptW.call {P : Program} {f : FuncId} {args : Array Value} {w : World} {v : Value} (n : KeptW w) (h : ∀ wx, Kept NoB w wx → Calls P f args wx fun r w' => r = .returned v ∧ Kept NoB wx w') :
    Calls P f args n.x fun e w'' => e = .returned v ∧ ∃ m : KeptW w, w'' = m.x :=
  (h n.x n.h).mono (fun _ _ ⟨he, hk⟩ => ⟨he, ⟨_, n.h.trans hk⟩, rfl⟩)

theorem nine_set {w : World} {rb : Nat} {bv : Value} {p : Nat} {d : En} {dv er : Value} (e : En) (v : Value) (h : w.heap[rb]? = some (rdBlock bv p d dv er)) :
    ((((((w.setCell ⟨rb, 2, none⟩ (.string e.path)).setCell ⟨rb, 3, none⟩ (.int .i64 e.kind)).setCell ⟨rb, 4, none⟩ (.int .i64 e.mode)).setCell ⟨rb, 5, none⟩ (.int .i64 e.time)).setCell ⟨rb, 6, none⟩ v).setCell ⟨rb, 7, none⟩ (.string e.content)).heap[rb]? = some (rdBlock bv p e v er) := by
  have h0 := heap_setCell_same w rb 2 _ 84 (.string e.path) h
  have h1 := heap_setCell_same _ rb 3 _ 84 (.int .i64 e.kind) h0
  have h2 := heap_setCell_same _ rb 4 _ 84 (.int .i64 e.mode) h1
  have h3 := heap_setCell_same _ rb 5 _ 84 (.int .i64 e.time) h2
  have h4 := heap_setCell_same _ rb 6 _ 84 v h3
  have h5 := heap_setCell_same _ rb 7 _ 84 (.string e.content) h4
  exact h5

set_option maxRecDepth 100000 in
set_option maxHeartbeats 16000000 in
theorem head_any (t : List UInt8) {rb : Nat} {l : List UInt8} {d : En} {dv : Value} (m : Int) (w : World) (hm : w.cell? ⟨0, 0, none⟩ = some (.int .i64 m)) (hm0 : 0 < rb) (hl : l.length ≤ 100000000) (hd : d.path.size ≤ 50000000) (hr : ReadAt w rb l d dv (t, false)) :
    Calls Tryd.prog 34 #[.pointer (some ⟨rb, 0, none⟩)] w fun e w' => Kept (At rb) w w' ∧
      ((headOk d (nHead (t, false)) = true ∧ ∃ vn, e = .returned (.tuple #[enVal (nHead (t, false)).1 vn, .int .i64 (nHead (t, false)).2.1, .nilIface]) ∧ w'.ownsRow w.heap.size 59 2 vn (nHead (t, false)).1.notes.length ((nHead (t, false)).1.notes.flatMap ntCells) ∧ ReadAt w' rb l (nHead (t, false)).1 vn (nHead (t, false)).2.2) ∨
       (headOk d (nHead (t, false)) = false ∧ ∃ ev, e = .returned (.tuple #[zeroEn, .int .i64 0, ev]) ∧ FaultAt w' ev 4)) := by
  have hrb := hr.lt
  have HR := hide hr
  have HM := hide hm
  clear hr hm
  obtain ⟨g, hg⟩ : ∃ g, g = w.heap.size := ⟨_, rfl⟩
  unfold nHead
  obtain ⟨s, hs⟩ : ∃ s, s = (t, false) := ⟨_, rfl⟩
  rw [← hs] at HR ⊢
  clear hs
  have HC1 : Hid (∀ wx, ReadAt wx rb l d dv s → Calls Tryd.prog 42 #[.pointer (some ⟨rb, 0, none⟩), .int .i64 1] wx fun e w' => e = .returned (.int .i64 (nnum 1 s).1) ∧ ReadAt w' rb l d dv (nnum 1 s).2 ∧ Kept (At rb) wx w') := fun wx hr => number_any 1 s wx (by omega) hl hr
  generalize nnum 1 s = S1 at *
  obtain ⟨x1, s1⟩ := S1
  simp only at HC1 ⊢
  have hx2 := ntext_byte s1
  have HC2 : Hid (∀ wx, ReadAt wx rb l d dv s1 → Calls Tryd.prog 43 #[.pointer (some ⟨rb, 0, none⟩), .int .i64 1] wx fun e w' => e = .returned (.string ⟨(ntext 1 s1).1.toArray⟩) ∧ ReadAt w' rb l d dv (ntext 1 s1).2 ∧ Kept (At rb) wx w') := fun wx hr => words_any 1 s1 wx (by omega) hl hr
  generalize ntext 1 s1 = S2 at *
  obtain ⟨x2, s2⟩ := S2
  simp only at HC2 hx2 ⊢
  have HC3 : Hid (∀ wx, ReadAt wx rb l d dv s2 → Calls Tryd.prog 42 #[.pointer (some ⟨rb, 0, none⟩), .int .i64 2] wx fun e w' => e = .returned (.int .i64 (nnum 2 s2).1) ∧ ReadAt w' rb l d dv (nnum 2 s2).2 ∧ Kept (At rb) wx w') := fun wx hr => number_any 2 s2 wx (by omega) hl hr
  generalize nnum 2 s2 = S3 at *
  obtain ⟨x3, s3⟩ := S3
  simp only at HC3 ⊢
  have HC4 : Hid (∀ wx, ReadAt wx rb l d dv s3 → Calls Tryd.prog 42 #[.pointer (some ⟨rb, 0, none⟩), .int .i64 5] wx fun e w' => e = .returned (.int .i64 (nnum 5 s3).1) ∧ ReadAt w' rb l d dv (nnum 5 s3).2 ∧ Kept (At rb) wx w') := fun wx hr => number_any 5 s3 wx (by omega) hl hr
  generalize nnum 5 s3 = S4 at *
  obtain ⟨x4, s4⟩ := S4
  simp only at HC4 ⊢
  have hx5 := nNotes_count (nnum 1 s4).1 (nnum 1 s4).2
  have hx5b := nnum_byte s4
  have HC5 : Hid (∀ wx, ReadAt wx rb l d dv s4 → Calls Tryd.prog 44 #[.pointer (some ⟨rb, 0, none⟩)] wx fun e w' => ∃ v ns, ns = (nNotes (nnum 1 s4).1 (nnum 1 s4).2).1 ∧ e = .returned v ∧ w'.ownsRow wx.heap.size 59 2 v ns.length (ns.flatMap ntCells) ∧ ReadAt w' rb l d dv (nNotes (nnum 1 s4).1 (nnum 1 s4).2).2 ∧ Kept (At rb) wx w') := fun wx hr => rnotes_any s4 wx hl hr
  rw [← hx5] at hx5b
  clear hx5
  generalize nNotes (nnum 1 s4).1 (nnum 1 s4).2 = S5 at *
  obtain ⟨x5, s5⟩ := S5
  simp only at HC5 hx5b ⊢
  have hx6 := nnum_small 4 s5 (by omega)
  have HC6 : Hid (∀ wx, ReadAt wx rb l d dv s5 → Calls Tryd.prog 42 #[.pointer (some ⟨rb, 0, none⟩), .int .i64 4] wx fun e w' => e = .returned (.int .i64 (nnum 4 s5).1) ∧ ReadAt w' rb l d dv (nnum 4 s5).2 ∧ Kept (At rb) wx w') := fun wx hr => number_any 4 s5 wx (by omega) hl hr
  generalize nnum 4 s5 = S6 at *
  obtain ⟨x6, s6⟩ := S6
  simp only at HC6 hx6 ⊢
  go_enter Tryd.func34, Tryd.ntmps34
  go_wp2_with fail
  have hS : EntS w rb g l d dv #[.string ⟨#[]⟩, .int .i64 0, .int .i64 0, .int .i64 0, .slice none 0 0, .string ⟨#[]⟩] ((w.alloc (.cells #[.string ⟨#[]⟩, .int .i64 0, .int .i64 0, .int .i64 0, .slice none 0 0, .string ⟨#[]⟩] 55)).alloc (.cells #[.string ⟨#[]⟩, .int .i64 0, .int .i64 0, .int .i64 0, .slice none 0 0, .string ⟨#[]⟩] 55)) s :=
    ⟨by rw [hg]; exact heap_alloc2_old w _ _, by rw [hg]; exact heap_alloc2_new w _ _, HR.out.keepN (((Kept.refl NoB w).alloc _).alloc _), ((Kept.refl _ w).alloc _).alloc _, by omega, hg⟩
  rw [← hg]
  have H0 := hide hS
  generalize ((w.alloc (.cells #[.string ⟨#[]⟩, .int .i64 0, .int .i64 0, .int .i64 0, .slice none 0 0, .string ⟨#[]⟩] 55)).alloc (.cells #[.string ⟨#[]⟩, .int .i64 0, .int .i64 0, .int .i64 0, .slice none 0 0, .string ⟨#[]⟩] 55)) = W0 at *
  have HG := hide hg
  clear hS hg HR
  refine (HC1.out W0 H0.out.rd).mono ?_
  rintro r w1 ⟨rfl, hr1, hk1⟩
  have G1 := hide (H0.out.call hr1 hk1)
  have H1 := hide (G1.out.put 1 (.int .i64 x1))
  clear hr1 hk1 HC1 H0
  obtain ⟨c0, c1, c2, c3, c4, c5, cf⟩ := box_cells G1.out.b1
  go_wp2_with fail
  clear c0 c1 c2 c3 c4 c5 cf G1
  generalize w1.setCell ⟨g + 1, 1, none⟩ (.int .i64 x1) = W1 at *
  simp only [List.setIfInBounds_toArray, List.set_cons_zero, List.set_cons_succ] at H1
  refine (HC2.out W1 H1.out.rd).mono ?_
  rintro r w2 ⟨rfl, hr2, hk2⟩
  have G2 := hide (H1.out.call hr2 hk2)
  have H2 := hide (G2.out.put 0 (.string ⟨x2.toArray⟩))
  clear hr2 hk2 HC2 H1
  obtain ⟨c0, c1, c2, c3, c4, c5, cf⟩ := box_cells G2.out.b1
  go_wp2_with fail
  clear c0 c1 c2 c3 c4 c5 cf G2
  generalize w2.setCell ⟨g + 1, 0, none⟩ (.string ⟨x2.toArray⟩) = W2 at *
  simp only [List.setIfInBounds_toArray, List.set_cons_zero] at H2
  refine (HC3.out W2 H2.out.rd).mono ?_
  rintro r w3 ⟨rfl, hr3, hk3⟩
  have G3 := hide (H2.out.call hr3 hk3)
  have H3 := hide (G3.out.put 2 (.int .i64 x3))
  clear hr3 hk3 HC3 H2
  obtain ⟨c0, c1, c2, c3, c4, c5, cf⟩ := box_cells G3.out.b1
  go_wp2_with fail
  clear c0 c1 c2 c3 c4 c5 cf G3
  generalize w3.setCell ⟨g + 1, 2, none⟩ (.int .i64 x3) = W3 at *
  simp only [List.setIfInBounds_toArray, List.set_cons_zero, List.set_cons_succ] at H3
  refine (HC4.out W3 H3.out.rd).mono ?_
  rintro r w4 ⟨rfl, hr4, hk4⟩
  have G4 := hide (H3.out.call hr4 hk4)
  have H4 := hide (G4.out.put 3 (.int .i64 x4))
  clear hr4 hk4 HC4 H3
  obtain ⟨c0, c1, c2, c3, c4, c5, cf⟩ := box_cells G4.out.b1
  go_wp2_with fail
  clear c0 c1 c2 c3 c4 c5 cf G4
  generalize w4.setCell ⟨g + 1, 3, none⟩ (.int .i64 x4) = W4 at *
  simp only [List.setIfInBounds_toArray, List.set_cons_zero, List.set_cons_succ] at H4
  refine (HC5.out W4 H4.out.rd).mono ?_
  rintro r w5 ⟨vn, ns, hns, rfl, ho5, hr5, hk5⟩
  subst hns
  have G5 := hide (H4.out.call hr5 hk5)
  obtain ⟨nao, ncap, rfl⟩ := owns_shape ho5
  have H5 := hide (G5.out.put 4 (.slice nao ns.length ncap))
  have hsz4 : g + 1 < W4.heap.size := (Array.getElem?_eq_some_iff.1 H4.out.b1).1
  have HO5 : Hid ((w5.setCell ⟨g + 1, 4, none⟩ (.slice nao ns.length ncap)).ownsRow (g + 2) 59 2 (.slice nao ns.length ncap) ns.length (ns.flatMap ntCells)) := by
    have hk : Kept (At (g + 1)) w5 (w5.setCell ⟨g + 1, 4, none⟩ (.slice nao ns.length ncap)) := (Kept.refl (At (g + 1)) w5).setCell ⟨g + 1, 4, none⟩ (fun _ => rfl) _
    exact owns_lower (hk.owns ho5 (fun k hk' hx => by have := (ho5.lt k hk').1; unfold At at hx; omega)) (by omega)
  have hlt4 := H4.out.lt
  clear hr5 hk5 HC5 H4 ho5 hsz4
  obtain ⟨c0, c1, c2, c3, c4, c5, cf⟩ := box_cells G5.out.b1
  go_wp2_with fail
  clear c0 c1 c2 c3 c4 c5 cf G5
  generalize w5.setCell ⟨g + 1, 4, none⟩ (.slice nao ns.length ncap) = W5 at *
  simp only [List.setIfInBounds_toArray, List.set_cons_zero, List.set_cons_succ] at H5
  refine (HC6.out W5 H5.out.rd).mono ?_
  rintro r w6 ⟨rfl, hr6, hk6⟩
  have H6 := hide (H5.out.call hr6 hk6)
  have HO6 : Hid (w6.ownsRow (g + 2) 59 2 (.slice nao ns.length ncap) ns.length (ns.flatMap ntCells)) := hk6.owns HO5.out (fun k hk' hx => by have := (HO5.out.lt k hk').1; unfold At at hx; omega)
  clear hr6 hk6 HC6 H5 HO5
  clear W0 W1 W2 W3 W4 W5 w1 w2 w3 w4 w5
  have hres : Tryd.f34.results = #[.cell 2 55, .tmp 3, .tmp 4] := by kernel_rfl
  have HRES := hide hres
  clear hres
  obtain ⟨er, c8, he⟩ := H6.out.rd.err
  rcases he with ⟨hbf, rfl⟩ | ⟨hbt, hfi⟩
  · have hm6 : w6.cell? ⟨0, 0, none⟩ = some (.int .i64 m) := (H6.out.kept.cell (p := ⟨0, 0, none⟩) (by show 0 < w.heap.size; omega) (by intro hx; have : (0 : Nat) = rb := hx; omega)).trans HM.out
    have H1c : Hid (∀ wx, Kept NoB w6 wx → Calls Tryd.prog 45 #[.agg #[.string ⟨x2.toArray⟩, .int .i64 x1, .int .i64 x3, .int .i64 x4, .slice nao ns.length ncap, .string ⟨#[]⟩], .int .i64 x6] wx fun r w' => r = .returned (.bool (entryOk ⟨⟨x2.toArray⟩, x1, x3, x4, ns, blank x6⟩)) ∧ Kept NoB wx w') := by
      intro wx hx
      have := isHead_any ⟨⟨x2.toArray⟩, x1, x3, x4, ns, blank x6⟩ ⟨#[]⟩ (.slice nao ns.length ncap) m wx (hx.cellN hm6) (CellsAt.keptN (CellsAt.ofOwns HO6.out) (by decide) hx) (by show (⟨x2.toArray⟩ : ByteArray).size ≤ _; rw [mk_size]; omega) (by show ns.length ≤ _; omega) (by show (blank x6).size ≤ _; rw [blank_size]; omega)
      rw [show (En.content ⟨⟨x2.toArray⟩, x1, x3, x4, ns, blank x6⟩).size = x6 from blank_size x6] at this
      exact this
    have H2c : Hid (∀ wx, Kept NoB w6 wx → Calls Tryd.prog 38 #[enVal d dv, enVal ⟨⟨x2.toArray⟩, x1, x3, x4, ns, ⟨#[]⟩⟩ (.slice nao ns.length ncap)] wx fun r w' => r = .returned (.bool (followsB d ⟨⟨x2.toArray⟩, x1, x3, x4, ns, ⟨#[]⟩⟩)) ∧ Kept NoB wx w') := fun wx hx => follows_any d ⟨⟨x2.toArray⟩, x1, x3, x4, ns, ⟨#[]⟩⟩ dv (.slice nao ns.length ncap) m wx (hx.cellN hm6) hd (by show (⟨x2.toArray⟩ : ByteArray).size ≤ _; rw [mk_size]; omega)
    have H3c : Hid (∀ wx, Kept NoB w6 wx → Calls Tryd.prog 33 #[.pointer (some ⟨rb, 0, none⟩)] wx fun e w' => e = .returned (.int .i64 s6.1.length) ∧ Kept NoB wx w') := by
      intro wx hx
      refine (left_any wx (H6.out.rd.keepN hx) hl).mono ?_
      rintro e w' ⟨rfl, k, rfl⟩
      exact ⟨rfl, (Kept.refl NoB wx).drewN k⟩
    have HCC : Hid (∀ wx, Kept NoB w6 wx → (wx.cell? ⟨rb, 2, none⟩ = some (.string d.path) ∧ wx.cell? ⟨rb, 3, none⟩ = some (.int .i64 d.kind) ∧ wx.cell? ⟨rb, 4, none⟩ = some (.int .i64 d.mode) ∧ wx.cell? ⟨rb, 5, none⟩ = some (.int .i64 d.time) ∧ wx.cell? ⟨rb, 6, none⟩ = some dv ∧ wx.cell? ⟨rb, 7, none⟩ = some (.string d.content) ∧ ∀ j, wx.frozen? ⟨rb, j, none⟩ = false) ∧ wx.heap[g + 1]? = some (.cells #[.string ⟨x2.toArray⟩, .int .i64 x1, .int .i64 x3, .int .i64 x4, .slice nao ns.length ncap, .string ⟨#[]⟩] 55 (0, 0))) := by
      intro wx hx
      obtain ⟨bv, p, er2, h1, _⟩ := H6.out.rd.keepN hx
      obtain ⟨_, _, k2, k3, k4, k5, k6, k7, _, kf⟩ := row9 h1
      exact ⟨⟨k2, k3, k4, k5, k6, k7, kf⟩, hx.heapN H6.out.b1⟩
    have HOK : Hid (headOk d ((⟨⟨x2.toArray⟩, x1, x3, x4, ns, ⟨#[]⟩⟩ : En), x6, s6) = (entryOk ⟨⟨x2.toArray⟩, x1, x3, x4, ns, blank x6⟩ && (followsB d ⟨⟨x2.toArray⟩, x1, x3, x4, ns, ⟨#[]⟩⟩ && decide (x6 ≤ s6.1.length)))) := by
      unfold Hid headOk
      simp only [hbf]
      rfl
    unfold enVal at H2c
    generalize entryOk ⟨⟨x2.toArray⟩, x1, x3, x4, ns, blank x6⟩ = b1 at *
    generalize followsB d ⟨⟨x2.toArray⟩, x1, x3, x4, ns, ⟨#[]⟩⟩ = b2 at *
    have hslen : s6.1.length ≤ 100000000 := by
      obtain ⟨_, p, _, _, _, _, _, h5, _⟩ := H6.out.rd
      rw [h5, List.length_drop]
      omega
    generalize s6.1.length = n6 at *
    have hne6 : Nonempty (KeptW w6) := ⟨⟨w6, Kept.refl NoB w6⟩⟩
    have k2 : ∀ n : KeptW w6, n.x.cell? ⟨rb, 2, none⟩ = some (.string d.path) := fun n => (HCC.out n.x n.h).1.1
    have k3 : ∀ n : KeptW w6, n.x.cell? ⟨rb, 3, none⟩ = some (.int .i64 d.kind) := fun n => (HCC.out n.x n.h).1.2.1
    have k4 : ∀ n : KeptW w6, n.x.cell? ⟨rb, 4, none⟩ = some (.int .i64 d.mode) := fun n => (HCC.out n.x n.h).1.2.2.1
    have k5 : ∀ n : KeptW w6, n.x.cell? ⟨rb, 5, none⟩ = some (.int .i64 d.time) := fun n => (HCC.out n.x n.h).1.2.2.2.1
    have k6 : ∀ n : KeptW w6, n.x.cell? ⟨rb, 6, none⟩ = some dv := fun n => (HCC.out n.x n.h).1.2.2.2.2.1
    have k7 : ∀ n : KeptW w6, n.x.cell? ⟨rb, 7, none⟩ = some (.string d.content) := fun n => (HCC.out n.x n.h).1.2.2.2.2.2.1
    have f0 : ∀ n : KeptW w6, n.x.cell? ⟨g + 1, 0, none⟩ = some (.string ⟨x2.toArray⟩) := fun n => (box_cells (HCC.out n.x n.h).2).1
    have f1 : ∀ n : KeptW w6, n.x.cell? ⟨g + 1, 1, none⟩ = some (.int .i64 x1) := fun n => (box_cells (HCC.out n.x n.h).2).2.1
    have f2 : ∀ n : KeptW w6, n.x.cell? ⟨g + 1, 2, none⟩ = some (.int .i64 x3) := fun n => (box_cells (HCC.out n.x n.h).2).2.2.1
    have f3 : ∀ n : KeptW w6, n.x.cell? ⟨g + 1, 3, none⟩ = some (.int .i64 x4) := fun n => (box_cells (HCC.out n.x n.h).2).2.2.2.1
    have f4 : ∀ n : KeptW w6, n.x.cell? ⟨g + 1, 4, none⟩ = some (.slice nao ns.length ncap) := fun n => (box_cells (HCC.out n.x n.h).2).2.2.2.2.1
    have f5 : ∀ n : KeptW w6, n.x.cell? ⟨g + 1, 5, none⟩ = some (.string ⟨#[]⟩) := fun n => (box_cells (HCC.out n.x n.h).2).2.2.2.2.2.1
    clear hm6 hbf
    cases b1
    · go_wp2_with fail
      refine wp_region_kept (by kernel_rfl) (by kernel_rfl) ?_
      repeat (go_big_quiet_step (exact KeptW.call _ H1c.out))
      refine wpQuiet_nil ?_
      intro _ hw'
      obtain ⟨nq, hw''⟩ := hw'
      subst hw''
      have HNQ := hide nq.h
      generalize nq.x = w7 at *
      have HNO : Hid (headOk d ((⟨⟨x2.toArray⟩, x1, x3, x4, ns, ⟨#[]⟩⟩ : En), x6, s6) = false) := by unfold Hid; rw [HOK.out]; simp
      have H7 := hide (H6.out.keepN HNQ.out)
      clear H1c H2c H3c HCC HOK H6 HO6 c8 k2 k3 k4 k5 k6 k7 f0 f1 f2 f3 f4 f5
      go_wp2_with fail
      refine (noStream_any w7).mono ?_
      rintro r w8 ⟨rfl, hw8⟩
      have hk8 : Kept NoB w7 w8 := by rw [hw8]; exact (Kept.refl NoB w7).alloc _
      have hfb : w8.heap[w7.heap.size]? = some (.cells (faultCells 4) 64 (0, 0)) := by rw [hw8]; exact heap_alloc_new w7 _
      have hg7 : g < w7.heap.size := (Array.getElem?_eq_some_iff.1 H7.out.b0).1
      have H8 := hide (H7.out.keepN hk8)
      have HFB := hide hfb
      clear hw8 hk8 hfb H7
      obtain ⟨d0, d1, d2, d3, d4, d5, df⟩ := box_cells H8.out.b0
      go_wp2_with fail
      (try simp only [Exit.inBlock, Exit.then])
      have hfin := six_set (.string ⟨#[]⟩) (.int .i64 0) (.int .i64 0) (.int .i64 0) (.slice none 0 0) (.string ⟨#[]⟩) H8.out.b0
      refine bodyPost_ret (results_cell_tmp2 HRES.out _ _ g 55 _ (0, 0) _ rfl hfin Tryd.underlying55 rfl (by kernel_rfl)) rfl ?_
      have hkg := six_kept w8 g 0 (.string ⟨#[]⟩) (.int .i64 0) (.int .i64 0) (.int .i64 0) (.slice none 0 0) (.string ⟨#[]⟩)
      have hkw := H8.out.kept.trans' hkg (fun k hk' hx => by have := HG.out; unfold At at hx; omega)
      have hfi : FaultIn w8 rb (.iface 60 (.pointer (some ⟨w7.heap.size, 0, none⟩))) := ⟨w7.heap.size, by omega, rfl, HFB.out⟩
      refine ⟨hkw, .inr ⟨HNO.out, _, rfl, ?_⟩⟩
      refine (hfi.keep hkg (fun k hx c hc => ?_)).fault
      unfold At at hx
      subst hx
      rw [H8.out.b0] at hc
      injection hc with hc
      injection hc with _ hc
      exact absurd hc (by decide)
    · cases b2
      · go_wp2_with fail
        refine wp_region_kept (by kernel_rfl) (by kernel_rfl) ?_
        repeat (go_big_quiet_step (first | exact KeptW.call _ H1c.out | exact KeptW.call _ H2c.out))
        refine wpQuiet_nil ?_
        intro _ hw'
        obtain ⟨nq, hw''⟩ := hw'
        subst hw''
        have HNQ := hide nq.h
        generalize nq.x = w7 at *
        have HNO : Hid (headOk d ((⟨⟨x2.toArray⟩, x1, x3, x4, ns, ⟨#[]⟩⟩ : En), x6, s6) = false) := by unfold Hid; rw [HOK.out]; simp
        have H7 := hide (H6.out.keepN HNQ.out)
        clear H1c H2c H3c HCC HOK H6 HO6 c8 k2 k3 k4 k5 k6 k7 f0 f1 f2 f3 f4 f5
        go_wp2_with fail
        refine (noStream_any w7).mono ?_
        rintro r w8 ⟨rfl, hw8⟩
        have hk8 : Kept NoB w7 w8 := by rw [hw8]; exact (Kept.refl NoB w7).alloc _
        have hfb : w8.heap[w7.heap.size]? = some (.cells (faultCells 4) 64 (0, 0)) := by rw [hw8]; exact heap_alloc_new w7 _
        have hg7 : g < w7.heap.size := (Array.getElem?_eq_some_iff.1 H7.out.b0).1
        have H8 := hide (H7.out.keepN hk8)
        have HFB := hide hfb
        clear hw8 hk8 hfb H7
        obtain ⟨d0, d1, d2, d3, d4, d5, df⟩ := box_cells H8.out.b0
        go_wp2_with fail
        (try simp only [Exit.inBlock, Exit.then])
        have hfin := six_set (.string ⟨#[]⟩) (.int .i64 0) (.int .i64 0) (.int .i64 0) (.slice none 0 0) (.string ⟨#[]⟩) H8.out.b0
        refine bodyPost_ret (results_cell_tmp2 HRES.out _ _ g 55 _ (0, 0) _ rfl hfin Tryd.underlying55 rfl (by kernel_rfl)) rfl ?_
        have hkg := six_kept w8 g 0 (.string ⟨#[]⟩) (.int .i64 0) (.int .i64 0) (.int .i64 0) (.slice none 0 0) (.string ⟨#[]⟩)
        have hkw := H8.out.kept.trans' hkg (fun k hk' hx => by have := HG.out; unfold At at hx; omega)
        have hfi : FaultIn w8 rb (.iface 60 (.pointer (some ⟨w7.heap.size, 0, none⟩))) := ⟨w7.heap.size, by omega, rfl, HFB.out⟩
        refine ⟨hkw, .inr ⟨HNO.out, _, rfl, ?_⟩⟩
        refine (hfi.keep hkg (fun k hx c hc => ?_)).fault
        unfold At at hx
        subst hx
        rw [H8.out.b0] at hc
        injection hc with hc
        injection hc with _ hc
        exact absurd hc (by decide)
      · by_cases hlen : x6 ≤ n6
        · go_wp2_with fail
          refine wp_region_kept (by kernel_rfl) (by kernel_rfl) ?_
          repeat (go_big_quiet_step (first | exact KeptW.call _ H1c.out | exact KeptW.call _ H2c.out | exact KeptW.call _ H3c.out))
          refine wpQuiet_nil ?_
          intro _ hw'
          obtain ⟨nq, hw''⟩ := hw'
          subst hw''
          have HNQ := hide nq.h
          generalize nq.x = w7 at *
          have hdf : decide (n6 < x6) = false := by simp; omega
          rw [hdf]
          clear hdf
          have HYES : Hid (headOk d ((⟨⟨x2.toArray⟩, x1, x3, x4, ns, ⟨#[]⟩⟩ : En), x6, s6) = true) := by unfold Hid; rw [HOK.out]; simp [hlen]
          have H7 := hide (H6.out.keepN HNQ.out)
          have HO7 := hide (HNQ.out.owns HO6.out (fun _ _ x => x))
          clear H1c H2c H3c HCC HOK H6 HO6 c8 k2 k3 k4 k5 k6 k7 f0 f1 f2 f3 f4 f5
          obtain ⟨bv, p, er, q1, q2, q3, q4, q5, q6⟩ := H7.out.rd
          obtain ⟨_, _, k2, k3, k4, k5, k6, k7, _, kf⟩ := row9 q1
          obtain ⟨f0, f1, f2, f3, f4, f5, ff⟩ := box_cells H7.out.b1
          have HQ := hide (And.intro q2 (And.intro q3 (And.intro q4 (And.intro q5 q6))))
          have hq1 := nine_set (⟨⟨x2.toArray⟩, x1, x3, x4, ns, ⟨#[]⟩⟩ : En) (.slice nao ns.length ncap) q1
          have hk9 := six_kept w7 rb 2 (.string ⟨x2.toArray⟩) (.int .i64 x1) (.int .i64 x3) (.int .i64 x4) (.slice nao ns.length ncap) (.string ⟨#[]⟩)
          simp only [Nat.reduceAdd] at hk9
          simp only at hq1
          have HQ1 := hide hq1
          have HK9 := hide hk9
          clear q1 q2 q3 q4 q5 q6 hk9 hq1
          go_upto_region 13 with fail
          clear k2 k3 k4 k5 k6 k7 kf f0 f1 f2 f3 f4 f5 ff
          generalize (((((w7.setCell ⟨rb, 2, none⟩ (.string ⟨x2.toArray⟩)).setCell ⟨rb, 3, none⟩ (.int .i64 x1)).setCell ⟨rb, 4, none⟩ (.int .i64 x3)).setCell ⟨rb, 5, none⟩ (.int .i64 x4)).setCell ⟨rb, 6, none⟩ (.slice nao ns.length ncap)).setCell ⟨rb, 7, none⟩ (.string ⟨#[]⟩) = w9 at *
          have HB9 := hide (HK9.out.heap H7.out.b1 (fun hx => by unfold At at hx; omega))
          have HB8 := hide (HK9.out.heap H7.out.b0 (fun hx => by unfold At at hx; omega))
          have HO9 := hide (HK9.out.owns HO7.out (fun k hk' hx => by have := (HO7.out.lt k hk').1; unfold At at hx; omega))
          obtain ⟨e0, e1, e2, e3, e4, e5, ef⟩ := box_cells HB9.out
          obtain ⟨d0, d1, d2, d3, d4, d5, df⟩ := box_cells HB8.out
          go_wp2_with fail
          (try simp only [Exit.inBlock, Exit.then])
          have hfin := six_set (.string ⟨x2.toArray⟩) (.int .i64 x1) (.int .i64 x3) (.int .i64 x4) (.slice nao ns.length ncap) (.string ⟨#[]⟩) HB8.out
          refine bodyPost_ret (results_cell_tmp2 HRES.out _ _ g 55 _ (0, 0) _ rfl hfin Tryd.underlying55 rfl (by kernel_rfl)) rfl ?_
          have hkg := six_kept w9 g 0 (.string ⟨x2.toArray⟩) (.int .i64 x1) (.int .i64 x3) (.int .i64 x4) (.slice nao ns.length ncap) (.string ⟨#[]⟩)
          have hkw := (H7.out.kept.trans HK9.out).trans' hkg (fun k hk' hx => by have := HG.out; unfold At at hx; omega)
          refine ⟨hkw, .inl ⟨HYES.out, .slice nao ns.length ncap, rfl, ?_, ?_⟩⟩
          · have h1 := hkg.owns HO9.out (fun k hk' hx => by have := (HO9.out.lt k hk').1; unfold At at hx; omega)
            exact owns_lower h1 (by have := HG.out; omega)
          · obtain ⟨q2, q3, q4, q5, q6⟩ := HQ.out
            have hrd : ReadAt w9 rb l (⟨⟨x2.toArray⟩, x1, x3, x4, ns, ⟨#[]⟩⟩ : En) (.slice nao ns.length ncap) s6 := ⟨bv, p, er, HQ1.out, q2.keepL q3 HK9.out (fun k hk' hx => by unfold At at hx; omega), q3, q4, q5, q6.keep HK9.out (fun k hx c hc => ?_)⟩
            · refine hrd.keep hkg (fun k hx => ?_)
              unfold At at hx
              subst hx
              refine ⟨hlt4, fun c hc => ?_⟩
              rw [HB8.out] at hc
              injection hc with hc
              injection hc with _ hc
              exact absurd hc (by decide)
            · unfold At at hx
              subst hx
              obtain ⟨bv2, p2, er2, hq, _⟩ := H7.out.rd
              rw [hq] at hc
              injection hc with hc
              unfold rdBlock at hc
              injection hc with _ hc
              exact absurd hc (by decide)
        · go_wp2_with fail
          refine wp_region_kept (by kernel_rfl) (by kernel_rfl) ?_
          repeat (go_big_quiet_step (first | exact KeptW.call _ H1c.out | exact KeptW.call _ H2c.out | exact KeptW.call _ H3c.out))
          refine wpQuiet_nil ?_
          intro _ hw'
          obtain ⟨nq, hw''⟩ := hw'
          subst hw''
          have HNQ := hide nq.h
          generalize nq.x = w7 at *
          have HNO : Hid (headOk d ((⟨⟨x2.toArray⟩, x1, x3, x4, ns, ⟨#[]⟩⟩ : En), x6, s6) = false) := by unfold Hid; rw [HOK.out]; simp; omega
          have H7 := hide (H6.out.keepN HNQ.out)
          clear H1c H2c H3c HCC HOK H6 HO6 c8 k2 k3 k4 k5 k6 k7 f0 f1 f2 f3 f4 f5
          go_wp2_with fail
          refine (noStream_any w7).mono ?_
          rintro r w8 ⟨rfl, hw8⟩
          have hk8 : Kept NoB w7 w8 := by rw [hw8]; exact (Kept.refl NoB w7).alloc _
          have hfb : w8.heap[w7.heap.size]? = some (.cells (faultCells 4) 64 (0, 0)) := by rw [hw8]; exact heap_alloc_new w7 _
          have hg7 : g < w7.heap.size := (Array.getElem?_eq_some_iff.1 H7.out.b0).1
          have H8 := hide (H7.out.keepN hk8)
          have HFB := hide hfb
          clear hw8 hk8 hfb H7
          obtain ⟨d0, d1, d2, d3, d4, d5, df⟩ := box_cells H8.out.b0
          go_wp2_with fail
          (try simp only [Exit.inBlock, Exit.then])
          have hfin := six_set (.string ⟨#[]⟩) (.int .i64 0) (.int .i64 0) (.int .i64 0) (.slice none 0 0) (.string ⟨#[]⟩) H8.out.b0
          refine bodyPost_ret (results_cell_tmp2 HRES.out _ _ g 55 _ (0, 0) _ rfl hfin Tryd.underlying55 rfl (by kernel_rfl)) rfl ?_
          have hkg := six_kept w8 g 0 (.string ⟨#[]⟩) (.int .i64 0) (.int .i64 0) (.int .i64 0) (.slice none 0 0) (.string ⟨#[]⟩)
          have hkw := H8.out.kept.trans' hkg (fun k hk' hx => by have := HG.out; unfold At at hx; omega)
          have hfi : FaultIn w8 rb (.iface 60 (.pointer (some ⟨w7.heap.size, 0, none⟩))) := ⟨w7.heap.size, by omega, rfl, HFB.out⟩
          refine ⟨hkw, .inr ⟨HNO.out, _, rfl, ?_⟩⟩
          refine (hfi.keep hkg (fun k hx c hc => ?_)).fault
          unfold At at hx
          subst hx
          rw [H8.out.b0] at hc
          injection hc with hc
          injection hc with _ hc
          exact absurd hc (by decide)
  · have HNO : Hid (headOk d ((⟨⟨x2.toArray⟩, x1, x3, x4, ns, ⟨#[]⟩⟩ : En), x6, s6) = false) := by unfold Hid headOk; simp [hbt]
    have HFI := hide hfi
    obtain ⟨fb, hfb1, rfl, hfb2⟩ := hfi
    have hne2 := fault_ne2 fb
    obtain ⟨d0, d1, d2, d3, d4, d5, df⟩ := box_cells H6.out.b0
    clear hfb2 hbt
    go_wp2_with fail
    go_region
    go_wp2_with fail
    (try simp only [Exit.inBlock, Exit.then])
    have hfin := six_set (.string ⟨#[]⟩) (.int .i64 0) (.int .i64 0) (.int .i64 0) (.slice none 0 0) (.string ⟨#[]⟩) H6.out.b0
    have hfin2 : ((((((w6.setCell ⟨g, 0, none⟩ (.string ⟨#[]⟩)).setCell ⟨g, 1, none⟩ (.int .i64 0)).setCell ⟨g, 2, none⟩ (.int .i64 0)).setCell ⟨g, 3, none⟩ (.int .i64 0)).setCell ⟨g, 4, none⟩ (.slice none 0 0)).setCell ⟨g, 5, none⟩ (.string ⟨#[]⟩)).drew.heap[g]? = some (.cells #[.string ⟨#[]⟩, .int .i64 0, .int .i64 0, .int .i64 0, .slice none 0 0, .string ⟨#[]⟩] 55 (0, 0)) := by rw [heap_drew]; exact hfin
    refine bodyPost_ret (results_cell_tmp2 HRES.out _ _ g 55 _ (0, 0) _ rfl hfin2 Tryd.underlying55 rfl (by kernel_rfl)) rfl ?_
    have hkg := six_kept w6 g 0 (.string ⟨#[]⟩) (.int .i64 0) (.int .i64 0) (.int .i64 0) (.slice none 0 0) (.string ⟨#[]⟩)
    have hkw := (H6.out.kept.trans' hkg (fun k hk' hx => by have := HG.out; unfold At at hx; omega)).drew
    refine ⟨hkw, .inr ⟨HNO.out, _, rfl, ?_⟩⟩
    refine (HFI.out.keep hkg.drew (fun k hx c hc => ?_)).fault
    unfold At at hx
    subst hx
    rw [H6.out.b0] at hc
    injection hc with hc
    injection hc with _ hc
    exact absurd hc (by decide)
end Go.Proofs.YtidioioldlmciaaDoor
