import Derived.Test.YtidioioldlmciaaDoorY
namespace Go.Proofs.YtidioioldlmciaaDoor
open Go.RowKit

/-- bytes that lie in a slice -/
abbrev BytesAt (w : World) (v : Value) (l : List UInt8) : Prop := CellsAt w v 1 l.length (byteL l)

set_option maxRecDepth 100000 in
set_option maxHeartbeats 4000000 in
theorem Length_any (ao : Option Addr) (n cap : Nat) (w : World) : Calls Tryd.prog 99 #[.slice ao n cap] w fun e w' => e = .returned (.int .i64 n) ∧ w' = w := by
  go_enter Tryd.func99, Tryd.ntmps99
  go_wp2_with fail
  go_ret
  exact ⟨rfl, rfl⟩

set_option maxRecDepth 100000 in
set_option maxHeartbeats 4000000 in
theorem Byte_any (l : List UInt8) (bv : Value) (k : Nat) (w : World) (hb : BytesAt w bv l) (hk : k < l.length) (hl : l.length ≤ 100000000) : Calls Tryd.prog 98 #[bv, .int .i64 k] w fun e w' => e = .returned (.tuple #[.int .u8 l[k].toNat, .nilIface]) ∧ w' = w := by
  obtain ⟨h1, ao, cap, rfl, hcap, hcc⟩ := hb
  obtain ⟨b, o, rfl, hc⟩ := hcc (by omega)
  have c0 := hc k (by omega)
  rw [byteL_at l k hk] at c0
  clear hc hcc
  go_enter Tryd.func98, Tryd.ntmps98
  go_wp2_with fail
  go_ret2
  exact ⟨rfl, rfl⟩

theorem length_nil (v : Value) (w : World) : (nilAhead 237 80 v "Length").run Tryd.prog w = .ok (some false) w := by kernel_rfl
theorem length_method (v : Value) (w : World) : (method 237 80 v "Length").run Tryd.prog w = .ok (99, v) w := by kernel_rfl
theorem byte_nil (v : Value) (w : World) : (nilAhead 237 80 v "Byte").run Tryd.prog w = .ok (some false) w := by kernel_rfl
theorem byte_method (v : Value) (w : World) : (method 237 80 v "Byte").run Tryd.prog w = .ok (98, v) w := by kernel_rfl

set_option maxRecDepth 100000 in
set_option maxHeartbeats 4000000 in
theorem left_any0 (rb : Nat) (ao : Option Addr) (n cap p : Nat) (w : World) (h0 : w.cell? ⟨rb, 0, none⟩ = some (.iface 80 (.slice ao n cap))) (h1 : w.cell? ⟨rb, 1, none⟩ = some (.int .i64 p)) (hn : n ≤ 100000000) (hp : p ≤ n) :
    Calls Tryd.prog 33 #[.pointer (some ⟨rb, 0, none⟩)] w fun e w' => e = .returned (.int .i64 ((n - p : Nat) : Int)) ∧ ∃ m, w' = w.drewN m := by
  have hm1 : ∀ w, (nilAhead 237 80 (.slice ao n cap) "Length").run Tryd.prog w = .ok (some false) w := fun w => length_nil _ w
  have hm2 : ∀ w, (method 237 80 (.slice ao n cap) "Length").run Tryd.prog w = .ok (99, .slice ao n cap) w := fun w => length_method _ w
  have e : (n : Int) - (p : Int) = ((n - p : Nat) : Int) := by omega
  have HE := hide e
  clear e
  go_enter Tryd.func33, Tryd.ntmps33
  go_wp2_with fail
  go_quiet ((go_at_call 99; exact Calls.quiet_of_same (Length_any ao n cap _)))
  go_wp2_with fail
  go_ret
  exact ⟨by rw [← HE.out]; rfl, _, rfl⟩

set_option maxRecDepth 100000 in
set_option maxHeartbeats 4000000 in
theorem noStream_any (w : World) : Calls Tryd.prog 46 #[] w fun e w' => e = .returned (.iface 60 (.pointer (some ⟨w.heap.size, 0, none⟩))) ∧ w' = w.alloc (.cells (faultCells 4) 64) := by
  go_enter Tryd.func46, Tryd.ntmps46
  go_wp2_with fail
  go_ret
  exact ⟨rfl, rfl⟩

/-- the fault of a reader, in a block of its own -/
def FaultIn (w : World) (rb : Nat) (er : Value) : Prop := ∃ b, rb < b ∧ er = .iface 60 (.pointer (some ⟨b, 0, none⟩)) ∧ w.heap[b]? = some (.cells (faultCells 4) 64 (0, 0))
theorem FaultIn.fault {w : World} {rb : Nat} {er : Value} (h : FaultIn w rb er) : FaultAt w er 4 := by
  obtain ⟨b, _, rfl, hb⟩ := h
  refine ⟨b, rfl, ?_, fun j hj => ?_⟩
  · rw [cell_of_row _ _ _ _ _ _ hb]; rfl
  · rw [cell_of_row _ _ _ _ _ _ hb]
    unfold faultCells
    rw [List.getElem?_toArray, Nat.add_comm, List.getElem?_cons_succ, List.getElem?_replicate, if_pos hj]
def ErrAt (w : World) (rb : Nat) (b : Bool) (er : Value) : Prop := (b = false ∧ er = .nilIface) ∨ (b = true ∧ FaultIn w rb er)
/-- silt's reader: its text, the place, the last entry, the fault; s: what is left, and whether there was a fault -/
def rdBlock (bv : Value) (p : Nat) (d : En) (dv er : Value) : Obj := .cells #[.iface 80 bv, .int .i64 p, .string d.path, .int .i64 d.kind, .int .i64 d.mode, .int .i64 d.time, dv, .string d.content, er] 84 (0, 0)
structure ReadAt (w : World) (rb : Nat) (l : List UInt8) (d : En) (dv : Value) (s : List UInt8 × Bool) : Prop where
  blk : ∃ bv p er, w.heap[rb]? = some (rdBlock bv p d dv er) ∧ BytesAt w bv l ∧ (0 < l.length → ∀ k, bv.ownBlock = some k → k < rb) ∧ p ≤ l.length ∧ s.1 = l.drop p ∧ ErrAt w rb s.2 er

theorem BytesAt.keepL {S : Nat → Prop} {w w' : World} {v : Value} {l : List UInt8} {rb : Nat} (h : BytesAt w v l) (ho : 0 < l.length → ∀ k, v.ownBlock = some k → k < rb) (hk : Kept S w w') (hS : ∀ k, k < rb → ¬ S k) : BytesAt w' v l := by
  rcases Nat.eq_zero_or_pos l.length with h0 | h0
  · obtain ⟨h1, ao, cap, h2, h3, _⟩ := h
    exact ⟨h1, ao, cap, h2, h3, fun hx => by omega⟩
  · exact CellsAt.kept h (by decide) hk (fun k hk' => hS k (ho h0 k hk'))
theorem FaultIn.keep {S : Nat → Prop} {w w' : World} {rb : Nat} {er : Value} (h : FaultIn w rb er) (hk : Kept S w w') (hS : ∀ k, S k → ∀ c, w.heap[k]? ≠ some (.cells c 64 (0, 0))) : FaultIn w' rb er := by
  obtain ⟨b, h1, h2, h3⟩ := h
  exact ⟨b, h1, h2, hk.heap h3 (fun hx => hS b hx _ h3)⟩
theorem ErrAt.keep {S : Nat → Prop} {w w' : World} {rb : Nat} {b : Bool} {er : Value} (h : ErrAt w rb b er) (hk : Kept S w w') (hS : ∀ k, S k → ∀ c, w.heap[k]? ≠ some (.cells c 64 (0, 0))) : ErrAt w' rb b er := by
  rcases h with h | ⟨h1, h2⟩
  · exact .inl h
  · exact .inr ⟨h1, h2.keep hk hS⟩
/-- a step that leaves the reader alone -/
theorem ReadAt.keep {S : Nat → Prop} {w w' : World} {rb : Nat} {l : List UInt8} {d : En} {dv : Value} {s : List UInt8 × Bool} (h : ReadAt w rb l d dv s) (hk : Kept S w w') (hS : ∀ k, S k → rb < k ∧ ∀ c, w.heap[k]? ≠ some (.cells c 64 (0, 0))) : ReadAt w' rb l d dv s := by
  obtain ⟨bv, p, er, h1, h2, h3, h4, h5, h6⟩ := h
  exact ⟨bv, p, er, hk.heap h1 (fun hx => by have := (hS rb hx).1; omega), h2.keepL h3 hk (fun k hk' hx => by have := (hS k hx).1; omega), h3, h4, h5, h6.keep hk (fun k hx => (hS k hx).2)⟩
theorem ReadAt.keepN {w w' : World} {rb : Nat} {l : List UInt8} {d : En} {dv : Value} {s : List UInt8 × Bool} (h : ReadAt w rb l d dv s) (hk : Kept NoB w w') : ReadAt w' rb l d dv s := h.keep hk (fun _ x => absurd x (fun y => y))
theorem ReadAt.lt {w : World} {rb : Nat} {l : List UInt8} {d : En} {dv : Value} {s : List UInt8 × Bool} (h : ReadAt w rb l d dv s) : rb < w.heap.size := by
  obtain ⟨bv, p, er, h1, _⟩ := h
  exact (Array.getElem?_eq_some_iff.1 h1).1
theorem row9 {w : World} {b : Nat} {x0 x1 x2 x3 x4 x5 x6 x7 x8 : Value} {t : TypeId} (h : w.heap[b]? = some (.cells #[x0, x1, x2, x3, x4, x5, x6, x7, x8] t (0, 0))) :
    w.cell? ⟨b, 0, none⟩ = some x0 ∧ w.cell? ⟨b, 1, none⟩ = some x1 ∧ w.cell? ⟨b, 2, none⟩ = some x2 ∧ w.cell? ⟨b, 3, none⟩ = some x3 ∧ w.cell? ⟨b, 4, none⟩ = some x4 ∧ w.cell? ⟨b, 5, none⟩ = some x5 ∧ w.cell? ⟨b, 6, none⟩ = some x6 ∧ w.cell? ⟨b, 7, none⟩ = some x7 ∧ w.cell? ⟨b, 8, none⟩ = some x8 ∧ ∀ j, w.frozen? ⟨b, j, none⟩ = false := by
  refine ⟨?_, ?_, ?_, ?_, ?_, ?_, ?_, ?_, ?_, fun j => frozen_of_row _ _ j _ _ h⟩ <;> rw [cell_of_row _ _ _ _ _ _ h] <;> rfl

/-- what is left -/
theorem left_any {rb : Nat} {l : List UInt8} {d : En} {dv : Value} {s : List UInt8 × Bool} (w : World) (hr : ReadAt w rb l d dv s) (hl : l.length ≤ 100000000) :
    Calls Tryd.prog 33 #[.pointer (some ⟨rb, 0, none⟩)] w fun e w' => e = .returned (.int .i64 s.1.length) ∧ ∃ m, w' = w.drewN m := by
  obtain ⟨bv, p, er, h1, h2, h3, h4, h5, h6⟩ := hr
  obtain ⟨ao, cap, rfl, _⟩ := CellsAt.shape h2
  obtain ⟨c0, c1, _⟩ := row9 h1
  refine (left_any0 rb ao l.length cap p w c0 c1 hl h4).mono ?_
  rintro e w' ⟨rfl, h⟩
  exact ⟨by rw [h5, List.length_drop], h⟩

/-- silt's take: nothing once there was a fault -/
def ntake (n : Nat) (s : List UInt8 × Bool) : List UInt8 × (List UInt8 × Bool) := if s.2 = true then ([], s) else (s.1.take n, (s.1.drop n, decide (s.1.length < n)))

def RbOr (rb : Nat) (v : Value) : Nat → Prop := fun k => k = rb ∨ v.ownBlock = some k

set_option maxRecDepth 100000 in
set_option maxHeartbeats 8000000 in
theorem next_end {rb : Nat} {l : List UInt8} {d : En} {dv : Value} (v : Value) (w : World) (hr : ReadAt w rb l d dv ([], false)) (hl : l.length ≤ 100000000) :
    Calls Tryd.prog 47 #[.pointer (some ⟨rb, 0, none⟩), v] w fun e w' => e = .returned v ∧ ReadAt w' rb l d dv ([], true) ∧ Kept (At rb) w w' := by
  have hL : Calls Tryd.prog 33 #[.pointer (some ⟨rb, 0, none⟩)] w fun e w' => e = .returned (.int .i64 0) ∧ ∃ m, w' = w.drewN m := left_any w hr hl
  have HL := hide hL
  have hlt := hr.lt
  obtain ⟨bv, p, er, h1, h2, h3, h4, h5, h6⟩ := hr
  obtain ⟨c0, c1, c2, c3, c4, c5, c6, c7, c8, cf⟩ := row9 h1
  have HH := hide (And.intro h1 (And.intro h2 (And.intro h3 (And.intro h4 h5))))
  clear h1 h2 h3 h4 h5 h6 hL
  go_enter Tryd.func47, Tryd.ntmps47
  go_wp2_with fail
  refine HL.out.mono ?_
  rintro r w1 ⟨rfl, m, rfl⟩
  go_wp2_with fail
  refine (noStream_any (w.drewN m)).mono ?_
  rintro r w2 ⟨rfl, hw2⟩
  have hk2 : Kept NoB w w2 := by rw [hw2]; exact ((Kept.refl NoB w).drewN m).alloc _
  have hfb : w2.heap[w.heap.size]? = some (.cells (faultCells 4) 64 (0, 0)) := by rw [hw2]; exact heap_alloc_new (w.drewN m) _
  have hrb2 := hk2.heapN HH.out.1
  have HK2 := hide (And.intro hk2 (And.intro hfb hrb2))
  clear c0 c1 c2 c3 c4 c5 c6 c7 c8 cf HL
  obtain ⟨_, _, _, _, _, _, _, _, c8, cf⟩ := row9 hrb2
  have hgs : (w.drewN m).heap.size = w.heap.size := rfl
  rw [hgs]
  clear hw2 hk2 hfb hrb2 hgs
  go_wp2_with fail
  go_ret
  obtain ⟨h1, h2, h3, h4, h5⟩ := HH.out
  obtain ⟨hk2, hfb, hrb2⟩ := HK2.out
  have hk : Kept (At rb) w (w2.setCell ⟨rb, 8, none⟩ (.iface 60 (.pointer (some ⟨w.heap.size, 0, none⟩)))) := (hk2.mono (T := At rb) (fun _ _ x => absurd x (fun y => y))).setCell ⟨rb, 8, none⟩ (fun _ => rfl) _
  refine ⟨rfl, ⟨bv, p, .iface 60 (.pointer (some ⟨w.heap.size, 0, none⟩)), ?_, h2.keepL h3 hk (fun k hk' hx => by unfold At at hx; omega), h3, h4, h5, .inr ⟨rfl, w.heap.size, hlt, rfl, ?_⟩⟩, hk⟩
  · rw [heap_setCell_same _ _ _ _ _ _ hrb2]
    rfl
  · exact ((Kept.refl (At rb) _).setCell ⟨rb, 8, none⟩ (fun _ => rfl) _).heap hfb (fun hx => by unfold At at hx; omega)

set_option maxRecDepth 100000 in
set_option maxHeartbeats 8000000 in
theorem next_more {rb : Nat} {l : List UInt8} {d : En} {dv : Value} {c : UInt8} {r : List UInt8} (base : Nat) (v : Value) (n : Nat) (xs : List Value) (w : World) (hr : ReadAt w rb l d dv (c :: r, false)) (hl : l.length ≤ 100000000) (ho : w.ownsRow base 5 1 v n xs) (hb : rb < base) (hbs : base ≤ w.heap.size) (hn : n ≤ 100000000) :
    Calls Tryd.prog 47 #[.pointer (some ⟨rb, 0, none⟩), v] w fun e w' => ∃ v', e = .returned v' ∧ ReadAt w' rb l d dv (r, false) ∧ w'.ownsRow base 5 1 v' (n + 1) (xs ++ [.int .u8 c.toNat]) ∧ Kept (RbOr rb v) w w' := by
  have HL := hide (left_any w hr hl)
  have hlt := hr.lt
  obtain ⟨bv, p, er, h1, h2, h3, h4, h5, h6⟩ := hr
  obtain ⟨c0, c1, c2, c3, c4, c5, c6, c7, c8, cf⟩ := row9 h1
  simp only at h5
  have hpl : p < l.length := by
    have := congrArg List.length h5
    rw [List.length_drop, List.length_cons] at this
    omega
  have hlc : l[p] = c ∧ l.drop (p + 1) = r := by
    rw [List.drop_eq_getElem_cons hpl] at h5
    injection h5 with ha hb
    exact ⟨ha.symm, hb.symm⟩
  obtain ⟨ao, cap, rfl, _⟩ := CellsAt.shape h2
  have hm1 : ∀ w, (nilAhead 237 80 (.slice ao l.length cap) "Byte").run Tryd.prog w = .ok (some false) w := fun w => byte_nil _ w
  have hm2 : ∀ w, (method 237 80 (.slice ao l.length cap) "Byte").run Tryd.prog w = .ok (98, .slice ao l.length cap) w := fun w => byte_method _ w
  have HB : Hid (∀ wx, Kept NoB w wx → Calls Tryd.prog 98 #[.slice ao l.length cap, .int .i64 p] wx fun e w' => e = .returned (.tuple #[.int .u8 c.toNat, .nilIface]) ∧ w' = wx) := by
    intro wx hk
    have := Byte_any l (.slice ao l.length cap) p wx (CellsAt.keptN h2 (by decide) hk) hpl hl
    rw [hlc.1] at this
    exact this
  have HH := hide (And.intro h1 (And.intro h2 (And.intro h3 (And.intro h4 (And.intro hlc.2 h6)))))
  have HO := hide ho
  obtain ⟨vo, vc, rfl⟩ := owns_shape ho
  have hsz : (((c :: r).length : Nat) : Int) = (r.length : Int) + 1 := by simp
  have HSZ := hide hsz
  have hrl : r.length ≤ 100000000 := by rw [← hlc.2, List.length_drop]; omega
  clear h1 h2 h3 h4 h5 h6 hlc ho hsz
  go_enter Tryd.func47, Tryd.ntmps47
  go_wp2_with fail
  refine HL.out.mono ?_
  rintro x w1 ⟨rfl, m, hw1⟩
  have hk1 : Kept NoB w w1 := by rw [hw1]; exact (Kept.refl NoB w).drewN m
  have HS1 : Hid (w1.heap.size = w.heap.size) := by unfold Hid; rw [hw1]; rfl
  have HK1 := hide hk1
  clear c0 c1 c2 c3 c4 c5 c6 c7 c8 cf HL
  obtain ⟨c0, c1, _, _, _, _, _, _, _, cf⟩ := row9 (hk1.heapN HH.out.1)
  clear hw1 hk1
  rw [HSZ.out]
  have hz : ((r.length : Int) + 1 == 0) = false := by simp; omega
  have HKW : Hid (∀ nq, Kept (At rb) w ((w1.drewN nq).setCell ⟨rb, 1, none⟩ (.int .i64 ((p : Int) + 1)))) := fun nq => ((HK1.out.mono (T := At rb) (fun _ _ x => absurd x (fun y => y))).drewN nq).setCell ⟨rb, 1, none⟩ (fun _ => rfl) _
  have HOW : Hid (∀ nq, ((w1.drewN nq).setCell ⟨rb, 1, none⟩ (.int .i64 ((p : Int) + 1))).ownsRow base 5 1 (.slice vo n vc) n xs) := fun nq => (HKW.out nq).owns HO.out (fun k hk hx => by have := (HO.out.lt k hk).1; unfold At at hx; omega)
  have hszw : ∀ nq, ((w1.drewN nq).setCell ⟨rb, 1, none⟩ (.int .i64 ((p : Int) + 1))).heap.size = w1.heap.size := fun nq => by rw [size_setCell']; rfl
  have HZW := hide hszw
  have hbs1 : base ≤ w1.heap.size := by rw [HS1.out]; exact hbs
  clear hszw
  go_wp2_with fail
  go_quiet ((go_at_call 98; exact Calls.quiet_of_same (HB.out _ (HK1.out.drewN _))))
  go_wp2_with (at_builtin; refine wpList_append2 _ rfl (.tmp 43) (.tmp 45) 32 32 rfl base 5 (.int .u8 0) 1 1 Tryd.underlying32 info5 rfl (.slice vo n vc) n xs rfl ((HOW.out _).alloc _) (.slice (some ⟨w1.heap.size, 0, none⟩) 1 1) 1 [.int .u8 c.toNat] rfl (Src.ofSlice _ Tryd.underlying32 _ 1 1 _ rfl (row_new' _ _ _ _ _ rfl (HZW.out _).symm) (by intro u hu; simp at hu; rw [hu]; rfl)) (by omega) (by unfold maxLen; omega) (by simp; omega) ?_; intro v' w2 hown' hold' hg2 hl2; obtain ⟨ao2, cap2, rfl⟩ := owns_shape hown')
  go_ret
  obtain ⟨h1, h2, h3, h4, h5, h6⟩ := HH.out
  have hkx := ((HKW.out nq).mono (T := RbOr rb (.slice vo n vc)) (fun k _ hk => .inl hk)).alloc (.cells #[.int .u8 c.toNat] 5)
  have hkf : Kept (RbOr rb (.slice vo n vc)) w w2 := hkx.grown hg2 (fun k hk _ => .inr hk)
  have hk2 : Kept (fun k => (Value.slice vo n vc).ownBlock = some k) ((w1.drewN nq).setCell ⟨rb, 1, none⟩ (.int .i64 ((p : Int) + 1))) w2 := ((Kept.refl _ _).alloc _).grown hg2 (fun k hk _ => hk)
  have hnr : ∀ k, (Value.slice vo n vc).ownBlock = some k → rb < k := fun k hk => by have := (HO.out.lt k hk).1; omega
  refine ⟨_, rfl, ⟨.slice ao l.length cap, p + 1, er, ?_, h2.keepL h3 hkf (fun k hk' hx => by rcases hx with hx | hx; omega; have := hnr k hx; omega), h3, by omega, h5.symm, ?_⟩, hown', hkf⟩
  · refine hk2.heap ?_ (fun hx => by have := hnr rb hx; omega)
    rw [heap_setCell_same _ _ _ _ _ _ (show (w1.drewN nq).heap[rb]? = _ from HK1.out.heapN h1)]
    simp [rdBlock]
  · rcases h6 with h6 | ⟨h6, _⟩
    · exact .inl h6
    · exact absurd h6 (by decide)

def sliceLen : Value → Nat | .slice _ n _ => n | _ => 0
def errNil (w : World) (rb : Nat) : Nat := match w.cell? ⟨rb, 8, none⟩ with | some .nilIface => 1 | _ => 0
theorem info5i : ∃ i, Tryd.prog.info? 5 = some i ∧ i.zero = some (.int .u8 0) ∧ i.size = 1 ∧ i.bytes = 1 := by
  obtain ⟨i, h1, h2, h3, h4⟩ := info_parts info5
  exact ⟨i, h1, h2, h3, h4⟩
theorem ReadAt.err {w : World} {rb : Nat} {l : List UInt8} {d : En} {dv : Value} {s : List UInt8 × Bool} (h : ReadAt w rb l d dv s) :
    ∃ er, w.cell? ⟨rb, 8, none⟩ = some er ∧ ErrAt w rb s.2 er := by
  obtain ⟨bv, p, er, h1, _, _, _, _, h6⟩ := h
  obtain ⟨_, _, _, _, _, _, _, _, c8, _⟩ := row9 h1
  exact ⟨er, c8, h6⟩
theorem fault_ne (b : Nat) (w : World) : (binOp .eql 34 (.iface 60 (.pointer (some ⟨b, 0, none⟩))) .nilIface).run Tryd.prog w = .ok (.bool false) w := by kernel_rfl
theorem fault_ne2 (b : Nat) (w : World) : (binOp .neq 34 (.iface 60 (.pointer (some ⟨b, 0, none⟩))) .nilIface).run Tryd.prog w = .ok (.bool true) w := by kernel_rfl

theorem ntake_end (n k : Nat) (t : List UInt8) (bad b : Bool) (hkn : k ≤ n) (hkt : k ≤ t.length) (hb1 : bad = true → k = 0 ∧ b = true) (hb2 : bad = false → b = true → k = t.length ∧ k < n) (hx : k < n → b = true) : ntake n (t, bad) = (t.take k, (t.drop k, b)) := by
  unfold ntake
  cases bad
  · rw [if_neg (by simp)]
    cases b
    · have : k = n := by
        rcases Nat.lt_or_ge k n with h | h
        · exact absurd (hx h) (by decide)
        · omega
      subst this
      have : decide (t.length < k) = false := by simp; omega
      rw [this]
    · obtain ⟨h1, h2⟩ := hb2 rfl rfl
      subst h1
      have : decide (t.length < n) = true := by simp; omega
      simp only [this]
      rw [List.take_of_length_le (by omega), List.take_of_length_le (by omega), List.drop_of_length_le (by omega), List.drop_of_length_le (by omega)]
  · obtain ⟨h1, h2⟩ := hb1 rfl
    subst h1 h2
    simp
theorem bytes_take {w : World} {base k : Nat} {v : Value} {t : List UInt8} (h : w.ownsRow base 5 1 v k (byteL (t.take k))) (hk : k ≤ t.length) : BytesAt w v (t.take k) := by
  have := CellsAt.ofOwns h
  unfold BytesAt
  rw [List.length_take, Nat.min_eq_left hk]
  exact this

set_option maxRecDepth 100000 in
set_option maxHeartbeats 8000000 in
theorem take_any (n : Nat) (s : List UInt8 × Bool) {rb : Nat} {l : List UInt8} {d : En} {dv : Value} (w : World) (hn : n ≤ 1099511627776) (hl : l.length ≤ 100000000) (hr : ReadAt w rb l d dv s) :
    Calls Tryd.prog 35 #[.pointer (some ⟨rb, 0, none⟩), .int .i64 n] w fun e w' => ∃ tv, e = .returned tv ∧ BytesAt w' tv (ntake n s).1 ∧ ReadAt w' rb l d dv (ntake n s).2 ∧ Kept (At rb) w w' := by
  obtain ⟨t, bad⟩ := s
  have hlt := hr.lt
  have htl : t.length ≤ l.length := by
    obtain ⟨_, p, _, _, _, _, _, h5, _⟩ := hr
    rw [show t = l.drop p from h5, List.length_drop]
    omega
  obtain ⟨T, hT⟩ : ∃ T, T = min n t.length := ⟨_, rfl⟩
  have hTI : min (n : Int) (t.length : Int) = (T : Int) := by omega
  have HT := hide hT
  clear hT
  obtain ⟨i5, hi, hz0, hz1, hz2⟩ := info5i
  have HL := hide (left_any w hr hl)
  have HR := hide hr
  clear hr
  by_cases hc : t.length < n
  all_goals
    go_enter Tryd.func35, Tryd.ntmps35
    go_wp2_with fail
    refine HL.out.mono ?_
    rintro x w1 ⟨rfl, m, hw1⟩
    have HK1 : Hid (Kept NoB w w1) := by unfold Hid; rw [hw1]; exact (Kept.refl NoB w).drewN m
    have hs1 : Hid (w1.heap.size = w.heap.size) := by unfold Hid; rw [hw1]; rfl
    clear hw1 HL
    simp only at *
    go_wp2_with (at_make; refine wpList_make_own _ rfl _ _ 32 rfl w.heap.size 5 i5 (.int .u8 0) 1 Tryd.underlying32 hi hz0 hz1 .i64 .i64 _ T rfl rfl (by have := HT.out; omega) (by rw [hz2]; have := HT.out; omega) (by have := HT.out; unfold maxLen; omega) (by rw [hs1.out]; exact Nat.le_refl _) ?_; intro w0 hown0 hgrow0)
    have HK0 : Hid (Kept NoB w w0) := HK1.out.grown hgrow0 (fun _ hk _ => by cases hk)
    have HO0 := hide hown0
    have HRD := hide (HR.out.keepN HK0.out)
    clear hown0 hgrow0 HK1 HR
    go_loopw [5] (fun v wr => ∃ (k : Nat) (ao : Option Addr) (cap : Nat) (b : Bool), v = .slice ao k cap ∧ k ≤ n ∧ k ≤ t.length ∧ (bad = true → k = 0 ∧ b = true) ∧ (bad = false → b = true → k = t.length ∧ k < n) ∧ Hid (wr.ownsRow w.heap.size 5 1 (.slice ao k cap) k (byteL (t.take k))) ∧ Hid (ReadAt wr rb l d dv (t.drop k, b)) ∧ Hid (Kept (At rb) w wr)) (fun v wr => 2 * (n - sliceLen v) + errNil wr rb)
    case atStart => exact ⟨0, _, T, bad, rfl, by omega, by omega, fun h => ⟨rfl, h⟩, fun h1 h2 => (by rw [h1] at h2; cases h2), HO0.out, HRD.out, HK0.out.mono (fun _ _ x => absurd x (fun y => y))⟩
    case round =>
      obtain ⟨k, ao, cap, b, rfl, hkn, hkt, hb1, hb2, hown, hrd, hkept⟩ := hrel
      have HFIN := hide (ntake_end n k t bad b hkn hkt hb1 hb2)
      obtain ⟨er, c8, he⟩ := hrd.out.err
      by_cases hkl : k < n
      · rcases he with ⟨hbf, rfl⟩ | ⟨hbt, fb, _, rfl, _⟩
        · simp only at hbf
          subst hbf
          have hbad : bad = false := by
            cases bad
            · rfl
            · exact absurd (hb1 rfl).2 (by decide)
          have HE1 : Hid (errNil wr rb = 1) := by unfold Hid errNil; rw [c8]
          cases hdk : t.drop k with
          | nil =>
            rw [hdk] at hrd
            have HN := hide (next_end (.slice ao k cap) wr hrd.out hl)
            have hke : k = t.length := by have := congrArg List.length hdk; rw [List.length_drop, List.length_nil] at this; omega
            have HKE := hide hke
            have HDK := hide hdk
            clear hdk hke
            go_wp2_with fail
            refine HN.out.mono ?_
            rintro r w2 ⟨rfl, hr2, hk2⟩
            have HR2 := hide hr2
            have HK2 := hide hk2
            clear hr2 hk2 HN
            go_wp2_with fail
            go_roundw
            case rel =>
              refine ⟨k, ao, cap, true, rfl, hkn, hkt, fun h => (by rw [hbad] at h; cases h), fun _ _ => ⟨HKE.out, hkl⟩, hide ?_, hide ?_, hide (hkept.out.trans HK2.out)⟩
              · exact HK2.out.owns hown.out (fun j hj hx => by have := (hown.out.lt j hj).1; unfold At at hx; omega)
              · rw [HDK.out]; exact HR2.out
            case measure =>
              have HE2 : errNil w2 rb = 0 := by
                obtain ⟨er2, d8, he2⟩ := HR2.out.err
                rcases he2 with ⟨hx, _⟩ | ⟨_, fb, _, rfl, _⟩
                · cases hx
                · unfold errNil; rw [d8]
              rw [HE1.out, HE2]
              omega
          | cons c r =>
            rw [hdk] at hrd
            have hkl2 : k < t.length := by have := congrArg List.length hdk; rw [List.length_drop, List.length_cons] at this; omega
            have hsz0 : w.heap.size ≤ wr.heap.size := hkept.out.size
            have HN := hide (next_more w.heap.size (.slice ao k cap) k _ wr hrd.out hl hown.out hlt hsz0 (by omega))
            have hcr : c = t[k] ∧ r = t.drop (k + 1) := by
              rw [List.drop_eq_getElem_cons hkl2] at hdk
              injection hdk with h1 h2
              exact ⟨h1.symm, h2.symm⟩
            have HCR := hide hcr
            clear hdk hcr
            go_wp2_with fail
            refine HN.out.mono ?_
            rintro r2 w2 ⟨v2, rfl, hr2, ho2, hk2⟩
            obtain ⟨ao2, cap2, rfl⟩ := owns_shape ho2
            have HR2 := hide hr2
            have HO2 := hide ho2
            have HK2 := hide hk2
            clear hr2 hk2 ho2 HN
            go_wp2_with fail
            go_roundw
            case rel =>
              refine ⟨k + 1, ao2, cap2, false, rfl, by omega, by omega, fun h => (by rw [hbad] at h; cases h), fun _ h => (by cases h), hide ?_, hide ?_, hide ?_⟩
              · rw [List.take_succ_eq_append_getElem hkl2, byteL_append, ← HCR.out.1]
                exact HO2.out
              · rw [← HCR.out.2]; exact HR2.out
              · refine hkept.out.trans' HK2.out (fun j hj hx => ?_)
                rcases hx with hx | hx
                · exact hx
                · have := (hown.out.lt j hx).1; omega
            case measure =>
              have HE2 : errNil w2 rb = 1 := by
                obtain ⟨er2, d8, he2⟩ := HR2.out.err
                rcases he2 with ⟨_, rfl⟩ | ⟨hx, _⟩
                · unfold errNil; rw [d8]
                · cases hx
              rw [HE1.out, HE2]
              simp only [sliceLen]
              omega
        · simp only at hbt
          subst hbt
          have hne := fault_ne fb
          have HF := hide (HFIN.out (fun _ => rfl))
          clear HFIN
          go_wp2_with fail
          go_ret
          rw [HF.out]
          exact ⟨_, rfl, bytes_take hown.out hkt, hrd.out, hkept.out⟩
      · have HF := hide (HFIN.out (fun h => absurd h hkl))
        clear HFIN
        have hkd : decide (k < n) = false := by simpa using hkl
        go_wp2_with fail
        go_ret
        rw [HF.out]
        exact ⟨_, rfl, bytes_take hown.out hkt, hrd.out, hkept.out⟩
end Go.Proofs.YtidioioldlmciaaDoor
