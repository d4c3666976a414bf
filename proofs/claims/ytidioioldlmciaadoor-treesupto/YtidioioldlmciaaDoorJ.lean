import Derived.Test.YtidioioldlmciaaDoorI
namespace Go.Proofs.YtidioioldlmciaaDoor
open Go.RowKit

def zeroEn : Value := .agg #[.string ByteArray.empty, .int .i64 0, .int .i64 0, .int .i64 0, .slice none 0 0, .string ByteArray.empty]
def zeroNt : Value := .agg #[.string ByteArray.empty, .string ByteArray.empty]
theorem info55 : (Tryd.prog.info? 55).map (fun i => (i.zero, i.size, i.bytes)) = some (some zeroEn, 6, 80) := by kernel_rfl
theorem info59 : (Tryd.prog.info? 59).map (fun i => (i.zero, i.size, i.bytes)) = some (some zeroNt, 2, 32) := by kernel_rfl

theorem block_ne {w : World} {i j : Nat} {c d : Array Value} {t u : TypeId} {f g : Nat × Nat} (hi : w.heap[i]? = some (.cells c t f)) (hj : w.heap[j]? = some (.cells d u g)) (h : t ≠ u) : i ≠ j := by
  rintro rfl
  rw [hi] at hj
  cases hj
  exact h rfl
theorem owns_block {w : World} {base : Nat} {e : TypeId} {size : Nat} {v : Value} {n : Nat} {xs : List Value} (h : w.ownsRow base e size v n xs) {k : Nat} (hk : v.ownBlock = some k) : ∃ c, w.heap[k]? = some (.cells c e (0, 0)) := by
  rcases h.2 with ⟨rfl, _⟩ | ⟨g, cap, cur, rfl, _, hg, _⟩
  · cases hk
  · cases hk; exact ⟨_, hg⟩
theorem owns_ne {w : World} {base : Nat} {e : TypeId} {size : Nat} {v : Value} {n : Nat} {xs : List Value} (h : w.ownsRow base e size v n xs) {j : Nat} {d : Array Value} {u : TypeId} {g : Nat × Nat} (hj : w.heap[j]? = some (.cells d u g)) (he : e ≠ u) :
    ∀ k, v.ownBlock = some k → ¬ At j k := by
  intro k hk hjk
  obtain ⟨c, hc⟩ := owns_block h hk
  exact block_ne hc hj he hjk

/-- what the reference's Tree has in hand between two entries -/
structure TInv (w0 w : World) (s : List UInt8 × Bool) (vl : Value) (zs : List (En × Value)) : Prop where
  fb : w.heap[w0.heap.size]? = some (.cells #[.int .i64 0, .string ⟨#[]⟩] 38 (0, 0))
  rb : w.heap[w0.heap.size + 1]? = some (rBlock s)
  own : w.ownsRow w0.heap.size 55 6 vl zs.length (zs.flatMap enCells)
  nts : ∀ z ∈ zs, w.ownsRow w0.heap.size 59 2 z.2 z.1.notes.length (z.1.notes.flatMap ntCells)
  kept : Kept NoB w0 w

/-- the entry that is being read: its box, and its notes so far -/
structure EInv (w : World) (eb : Nat) (e : En) (nv : Value) : Prop where
  box : w.heap[eb]? = some (.cells #[.string e.path, .int .i64 e.kind, .int .i64 e.mode, .int .i64 e.time, nv, .string e.content] 55 (0, 0))
  own : w.ownsRow eb 59 2 nv e.notes.length (e.notes.flatMap ntCells)

/-- both, with what keeps them apart -/
structure BInv (w0 w : World) (s : List UInt8 × Bool) (vl : Value) (zs : List (En × Value)) (eb : Nat) (e : En) (nv : Value) : Prop where
  t : TInv w0 w s vl zs
  e : EInv w eb e nv
  hi : w0.heap.size + 1 < eb
  vlt : ∀ k, vl.ownBlock = some k → k < eb
  zlt : ∀ z ∈ zs, ∀ k, z.2.ownBlock = some k → k < eb

theorem TInv.reader {w0 w w' : World} {s s' : List UInt8 × Bool} {vl : Value} {zs : List (En × Value)} (h : TInv w0 w s vl zs) (hk : Kept (At (w0.heap.size + 1)) w w') (hr : w'.heap[w0.heap.size + 1]? = some (rBlock s')) : TInv w0 w' s' vl zs := by
  refine ⟨hk.heap h.fb (fun x => ?_), hr, hk.owns h.own (owns_ne h.own h.rb (by decide)), fun z hz => hk.owns (h.nts z hz) (owns_ne (h.nts z hz) h.rb (by decide)), ?_⟩
  · exact absurd (show w0.heap.size = w0.heap.size + 1 from x) (by omega)
  · exact h.kept.trans' hk (fun i hi x => absurd (show i = w0.heap.size + 1 from x) (by omega))
theorem BInv.reader {w0 w w' : World} {s s' : List UInt8 × Bool} {vl : Value} {zs : List (En × Value)} {eb : Nat} {e : En} {nv : Value} (h : BInv w0 w s vl zs eb e nv) (hk : Kept (At (w0.heap.size + 1)) w w') (hr : w'.heap[w0.heap.size + 1]? = some (rBlock s')) : BInv w0 w' s' vl zs eb e nv := by
  refine ⟨h.t.reader hk hr, ⟨hk.heap h.e.box (fun x => ?_), hk.owns h.e.own (owns_ne h.e.own h.t.rb (by decide))⟩, h.hi, h.vlt, h.zlt⟩
  have := h.hi
  exact absurd (show eb = w0.heap.size + 1 from x) (by omega)

/-- a store into the box -/
theorem BInv.store {w0 w : World} {s : List UInt8 × Bool} {vl : Value} {zs : List (En × Value)} {eb : Nat} {e : En} {nv : Value} (h : BInv w0 w s vl zs eb e nv) (j : Nat) (u : Value) (e' : En)
    (hb : #[Value.string e.path, .int .i64 e.kind, .int .i64 e.mode, .int .i64 e.time, nv, .string e.content].setIfInBounds j u = #[.string e'.path, .int .i64 e'.kind, .int .i64 e'.mode, .int .i64 e'.time, nv, .string e'.content]) (hn : e'.notes = e.notes) :
    BInv w0 (w.setCell ⟨eb, j, none⟩ u) s vl zs eb e' nv := by
  have hk : Kept (At eb) w (w.setCell ⟨eb, j, none⟩ u) := (Kept.refl (At eb) w).setCell ⟨eb, j, none⟩ (fun _ => rfl) _
  have hhi := h.hi
  refine ⟨⟨hk.heap h.t.fb (fun x => ?_), hk.heap h.t.rb (fun x => ?_), hk.owns h.t.own (fun k hk' x => ?_), fun z hz => hk.owns (h.t.nts z hz) (owns_ne (h.t.nts z hz) h.e.box (by decide)), ?_⟩, ⟨?_, ?_⟩, h.hi, h.vlt, h.zlt⟩
  · exact absurd (show w0.heap.size = eb from x) (by omega)
  · exact absurd (show w0.heap.size + 1 = eb from x) (by omega)
  · have := h.vlt k hk'
    exact absurd (show k = eb from x) (by omega)
  · exact h.t.kept.trans' hk (fun i hi x => absurd (show i = eb from x) (by omega))
  · rw [heap_setCell_same _ _ _ _ _ _ h.e.box, hb]
  · rw [hn]
    exact hk.owns h.e.own (owns_ne h.e.own h.e.box (by decide))

def rMeas (o : Option Obj) : Nat := match o with
  | some (.cells c _ _) => (match c[0]?, c[1]? with
    | some (Value.string s), some (Value.bool b) => if b then 0 else s.size + 1
    | _, _ => 0)
  | _ => 0
theorem rMeas_is (s : List UInt8 × Bool) : rMeas (some (rBlock s)) = if s.2 = true then 0 else s.1.length + 1 := by
  simp [rMeas, rBlock, mk_size]

theorem refNotes_le : ∀ (c : Nat) (s : List UInt8 × Bool), (refNotes c s).2.1.length ≤ s.1.length
  | 0, s => Nat.le_refl _
  | c + 1, s => by
    cases hs : s.2 with
    | true => rw [refNotes_bad _ _ hs]; exact Nat.le_refl _
    | false =>
      rw [refNotes_step c s hs]
      exact Nat.le_trans (refNotes_le c _) (Nat.le_trans (rtake_le _ _).1 (Nat.le_trans (rnum_le _ _) (Nat.le_trans (rtake_le _ _).1 (rnum_le _ _))))
theorem refEntry_le (s : List UInt8 × Bool) : (refEntry s).2.1.length ≤ s.1.length := by
  unfold refEntry
  simp only
  exact Nat.le_trans (rtake_le _ _).1 (Nat.le_trans (rnum_le _ _) (Nat.le_trans (refNotes_le _ _) (Nat.le_trans (rnum_le _ _) (Nat.le_trans (rnum_le _ _) (Nat.le_trans (rnum_le _ _) (Nat.le_trans (rtake_le _ _).1 (Nat.le_trans (rnum_le _ _) (rnum_le _ _))))))))

theorem refAll_len : ∀ (f : Nat) (s : List UInt8 × Bool), s.2 = false → (refAll f s).1.length ≤ f := by
  intro f
  induction f with
  | zero => intro s _; simp [refAll]
  | succ f ih =>
    intro s _
    by_cases h0 : s.1 = [] ∨ s.2 = true
    · rw [refAll_stop _ _ h0]; simp
    · rw [refAll_go _ _ h0]
      simp only [List.length_cons]
      cases hb : (refEntry s).2.2 with
      | true => rw [refAll_stop _ _ (.inr hb)]; simp
      | false => have := ih _ hb; omega

theorem owns_shape {w : World} {base : Nat} {e : TypeId} {size : Nat} {v : Value} {n : Nat} {xs : List Value} (h : w.ownsRow base e size v n xs) : ∃ ao cap, v = .slice ao n cap := by
  rcases h.2 with ⟨rfl, rfl⟩ | ⟨g, cap, cur, rfl, _⟩
  · exact ⟨_, _, rfl⟩
  · exact ⟨_, _, rfl⟩

theorem BInv.note {w0 w w1 : World} {s : List UInt8 × Bool} {vl : Value} {zs : List (En × Value)} {eb : Nat} {e : En} {nv v' : Value} {o : Obj} (h : BInv w0 w s vl zs eb e nv) (nt : Nt)
    (hown' : w1.ownsRow eb 59 2 v' (e.notes.length + 1) (e.notes.flatMap ntCells ++ ntCells nt)) (hg : (w.alloc o).grownBy w1 nv.ownBlock) :
    BInv w0 (w1.setCell ⟨eb, 4, none⟩ v') s vl zs eb { e with notes := e.notes ++ [nt] } v' := by
  have hk0 : Kept (fun k => nv.ownBlock = some k) w w1 := ((Kept.refl _ w).alloc o).grown hg (fun k hk _ => hk)
  have hk : Kept (fun k => nv.ownBlock = some k ∨ k = eb) w (w1.setCell ⟨eb, 4, none⟩ v') := (hk0.mono (fun _ _ x => .inl x)).setCell ⟨eb, 4, none⟩ (fun _ => .inr rfl) _
  have hhi := h.hi
  have hge : ∀ k, nv.ownBlock = some k → eb ≤ k := fun k hk => (h.e.own.lt k hk).1
  have hne : ∀ k, nv.ownBlock = some k → ¬ At eb k := owns_ne h.e.own h.e.box (by decide)
  refine ⟨⟨hk.heap h.t.fb ?_, hk.heap h.t.rb ?_, hk.owns h.t.own (fun k hk' => ?_), fun z hz => hk.owns (h.t.nts z hz) (fun k hk' => ?_), ?_⟩, ⟨?_, ?_⟩, h.hi, h.vlt, h.zlt⟩
  · rintro (x | x)
    · have := hge _ x; omega
    · omega
  · rintro (x | x)
    · have := hge _ x; omega
    · omega
  · have := h.vlt k hk'
    rintro (x | x)
    · have := hge _ x; omega
    · omega
  · have := h.zlt z hz k hk'
    rintro (x | x)
    · have := hge _ x; omega
    · omega
  · refine h.t.kept.trans' hk (fun i hi => ?_)
    rintro (x | x)
    · have := hge _ x; exact absurd hi (by omega)
    · exact absurd hi (by omega)
  · have hb := hk0.heap h.e.box (fun x => hne eb x rfl)
    rw [heap_setCell_same _ _ _ _ _ _ hb]
    rfl
  · have hk2 : Kept (At eb) w1 (w1.setCell ⟨eb, 4, none⟩ v') := (Kept.refl (At eb) w1).setCell ⟨eb, 4, none⟩ (fun _ => rfl) _
    have hb := hk0.heap h.e.box (fun x => hne eb x rfl)
    have h3 := hk2.owns hown' (owns_ne hown' hb (by decide))
    simpa [List.flatMap_append] using h3

theorem BInv.boxKept {w0 w w1 : World} {s : List UInt8 × Bool} {vl : Value} {zs : List (En × Value)} {eb : Nat} {e : En} {nv : Value} {o : Obj} (h : BInv w0 w s vl zs eb e nv) (hg : (w.alloc o).grownBy w1 nv.ownBlock) :
    w1.heap[eb]? = some (.cells #[.string e.path, .int .i64 e.kind, .int .i64 e.mode, .int .i64 e.time, nv, .string e.content] 55 (0, 0)) := by
  have hk0 : Kept (fun k => nv.ownBlock = some k) w w1 := ((Kept.refl _ w).alloc o).grown hg (fun k hk _ => hk)
  exact hk0.heap h.e.box (fun x => owns_ne h.e.own h.e.box (by decide) eb x rfl)

theorem refEntry_is {st s1 s2 s3 s4 s5 s6 s7 s8 s9 : List UInt8 × Bool} {k n m t c z : Nat} {p ct : List UInt8} {ns : List Nt} (h1 : rnum 1 st = (k, s1)) (h2 : rnum 1 s1 = (n, s2)) (h3 : rtake n s2 = (p, s3)) (h4 : rnum 2 s3 = (m, s4)) (h5 : rnum 5 s4 = (t, s5))
    (h6 : rnum 1 s5 = (c, s6)) (h7 : refNotes c s6 = (ns, s7)) (h8 : rnum 4 s7 = (z, s8)) (h9 : rtake z s8 = (ct, s9)) : refEntry st = (⟨⟨p.toArray⟩, k, m, t, ns, ⟨ct.toArray⟩⟩, s9) := by
  unfold refEntry
  simp only [h1, h2, h3, h4, h5, h6, h7, h8, h9]

/-- one call of number: the value, what is left -/
theorem num_call (n : Nat) (m : Int) (hm : m = n) (st : List UInt8 × Bool) (rb : Nat) (w : World) (hs : st.1.length ≤ 100000000) (hn : n ≤ 5) (hr : w.heap[rb]? = some (rBlock st)) :
    Calls Tryd.prog 23 #[.pointer (some ⟨rb, 0, none⟩), .int .i64 m] w fun e w' => ∃ k s1, Hid (rnum n st = (k, s1)) ∧ e = .returned (.int .i64 (k : Int)) ∧ w'.heap[rb]? = some (rBlock s1) ∧ Kept (At rb) w w' ∧ s1.1.length ≤ st.1.length ∧ k < 256 ^ n := by
  subst hm
  refine (numR_any n st rb w hs hn hr).mono ?_
  rintro e w' ⟨rfl, h1, h2⟩
  exact ⟨_, _, rfl, rfl, h1, h2, rnum_le n st, rnum_lt n st⟩
theorem take_call (n : Nat) (st : List UInt8 × Bool) (rb : Nat) (w : World) (hs : st.1.length ≤ 100000000) (hn : n ≤ 1099511627776) (hr : w.heap[rb]? = some (rBlock st)) :
    Calls Tryd.prog 24 #[.pointer (some ⟨rb, 0, none⟩), .int .i64 n] w fun e w' => ∃ x s1, Hid (rtake n st = (x, s1)) ∧ e = .returned (.string ⟨x.toArray⟩) ∧ w'.heap[rb]? = some (rBlock s1) ∧ Kept (At rb) w w' ∧ s1.1.length ≤ st.1.length := by
  refine (takeR_any n st rb w hs hn hr).mono ?_
  rintro e w' ⟨rfl, h1, h2⟩
  exact ⟨_, _, rfl, rfl, h1, h2, (rtake_le n st).1⟩

theorem box_cells {w : World} {b : Nat} {x0 x1 x2 x3 x4 x5 : Value} {t : TypeId} (h : w.heap[b]? = some (.cells #[x0, x1, x2, x3, x4, x5] t (0, 0))) :
    w.cell? ⟨b, 0, none⟩ = some x0 ∧ w.cell? ⟨b, 1, none⟩ = some x1 ∧ w.cell? ⟨b, 2, none⟩ = some x2 ∧ w.cell? ⟨b, 3, none⟩ = some x3 ∧ w.cell? ⟨b, 4, none⟩ = some x4 ∧ w.cell? ⟨b, 5, none⟩ = some x5 ∧ ∀ j, w.frozen? ⟨b, j, none⟩ = false := by
  refine ⟨?_, ?_, ?_, ?_, ?_, ?_, fun j => frozen_of_row _ _ j _ _ h⟩ <;> rw [cell_of_row _ _ _ _ _ _ h] <;> rfl

theorem two_new (W : World) (x y : Value) (t : TypeId) : ∀ j u, [x, y][j]? = some u → (W.alloc (.cells #[x, y] t)).cell? ((⟨W.heap.size, 0, none⟩ : Addr).add j) = some u := by
  intro j u hj
  have h := cell_of_row _ _ j _ _ _ (heap_alloc_new W (.cells #[x, y] t))
  rw [Addr.add_lit, Nat.zero_add, h]
  simpa using hj

theorem row_new' (W : World) (xs : List Value) (t : TypeId) (g : Nat) (cs : Array Value) (hcs : cs = xs.toArray) (hg : g = W.heap.size) : ∀ j u, xs[j]? = some u → (W.alloc (.cells cs t)).cell? ((⟨g, 0, none⟩ : Addr).add j) = some u := by
  subst hg
  intro j u hj
  have h := cell_of_row _ _ j _ _ _ (heap_alloc_new W (.cells cs t))
  rw [Addr.add_lit, Nat.zero_add, h, hcs]
  simpa using hj
theorem size_setCell' (w : World) (a : Addr) (v : Value) : (w.setCell a v).heap.size = w.heap.size := by simp [World.setCell]

theorem stream_count (es : List En) : es.length ≤ (streamB es).length := by
  induction es with
  | nil => simp [streamB]
  | cons e es ih =>
    have := enBytes_pos e
    simp only [streamB, List.flatMap_cons, List.length_append, List.length_cons] at ih ⊢
    omega
theorem notes_count (ns : List Nt) : ns.length ≤ (ns.flatMap ntBytes).length := by
  induction ns with
  | nil => simp
  | cons n ns ih =>
    have : 2 ≤ (ntBytes n).length := by unfold ntBytes; simp only [List.length_append, numB_len]; omega
    simp only [List.flatMap_cons, List.length_append, List.length_cons]
    omega
theorem stream_parts (es : List En) (e : En) (he : e ∈ es) : e.path.size + e.notes.length + e.content.size ≤ (streamB es).length := by
  induction es with
  | nil => cases he
  | cons d es ih =>
    simp only [streamB, List.flatMap_cons, List.length_append] at ih ⊢
    rcases List.mem_cons.1 he with rfl | h
    · have h1 := notes_count e.notes
      have h2 : e.content.data.toList.length = e.content.size := by rw [Array.length_toList]; rfl
      have h3 : e.path.data.toList.length = e.path.size := by rw [Array.length_toList]; rfl
      simp only [enBytes, headBytes, List.length_append, h2, h3]
      omega
    · have := ih h
      omega

theorem EntsAt.nil (w : World) : EntsAt w (.slice none 0 0) [] := ⟨⟨rfl, _, _, rfl, Nat.le_refl _, fun h => absurd h (Nat.lt_irrefl _)⟩, fun _ h => by cases h⟩
theorem TInv.ents {w0 w : World} {s : List UInt8 × Bool} {vl : Value} {zs : List (En × Value)} (h : TInv w0 w s vl zs) : EntsAt w vl zs :=
  ⟨CellsAt.ofOwns h.own, fun z hz => CellsAt.ofOwns (h.nts z hz)⟩

theorem TInv.push {w0 w w1 : World} {s : List UInt8 × Bool} {vl v' : Value} {zs : List (En × Value)} {eb : Nat} {e : En} {nv : Value} {o : Obj} (h : BInv w0 w s vl zs eb e nv)
    (hown' : w1.ownsRow w0.heap.size 55 6 v' (zs.length + 1) (zs.flatMap enCells ++ enCells (e, nv))) (hg : (w.alloc o).grownBy w1 vl.ownBlock) : TInv w0 w1 s v' (zs ++ [(e, nv)]) := by
  have hk0 : Kept (fun k => vl.ownBlock = some k) w w1 := ((Kept.refl _ w).alloc o).grown hg (fun k hk _ => hk)
  refine ⟨hk0.heap h.t.fb (fun x => owns_ne h.t.own h.t.fb (by decide) _ x rfl), hk0.heap h.t.rb (fun x => owns_ne h.t.own h.t.rb (by decide) _ x rfl), by simpa [List.flatMap_append] using hown', ?_, ?_⟩
  · intro z hz
    rcases List.mem_append.1 hz with hz | hz
    · refine hk0.owns (h.t.nts z hz) (fun k hk x => ?_)
      obtain ⟨c, hc⟩ := owns_block (h.t.nts z hz) hk
      exact owns_ne h.t.own hc (by decide) k x rfl
    · rw [List.mem_singleton.1 hz]
      refine owns_mono (hk0.owns h.e.own (fun k hk x => ?_)) (by have := h.hi; omega)
      obtain ⟨c, hc⟩ := owns_block h.e.own hk
      exact owns_ne h.t.own hc (by decide) k x rfl
  · exact h.t.kept.trans' hk0 (fun i hi x => absurd hi (Nat.not_lt.2 (h.t.own.lt i x).1))

theorem tree_round (s : List UInt8) (w : World) {wr W w1 : World} {st s9 : List UInt8 × Bool} {vl v' nv : Value} {zs : List (En × Value)} {f eb : Nat} {e : En} {o : Obj} (hT : TInv w wr st vl zs) (hgo : ¬ (st.1 = [] ∨ st.2 = true)) (hf : st.2 = true ∨ st.1.length < f)
    (hall : Hid (refAll (s.length + 1) (s, false) = (zs.map (·.1) ++ (refAll f st).1, (refAll f st).2))) (hle : st.1.length ≤ s.length) (hB : BInv w W s9 vl zs eb e nv)
    (hown' : w1.ownsRow w.heap.size 55 6 v' (zs.length + 1) (zs.flatMap enCells ++ enCells (e, nv))) (hg : (W.alloc o).grownBy w1 vl.ownBlock) (hE : refEntry st = (e, s9)) :
    (∃ st zs f, TInv w w1 st v' zs ∧ (st.2 = true ∨ st.1.length < f) ∧ Hid (refAll (s.length + 1) (s, false) = (zs.map (·.1) ++ (refAll f st).1, (refAll f st).2)) ∧ st.1.length ≤ s.length) ∧
    rMeas w1.heap[w.heap.size + 1]? < rMeas wr.heap[w.heap.size + 1]? := by
  have hT1 := TInv.push hB hown' hg
  have hst2 : st.2 = false := by simpa using fun h => hgo (.inr h)
  have hfl : st.1.length < f := by
    rcases hf with h | h
    · rw [hst2] at h; cases h
    · exact h
  obtain ⟨f, rfl⟩ : ∃ g, f = g + 1 := ⟨f - 1, by omega⟩
  have ha := hall.out
  rw [refAll_go f st hgo, hE] at ha
  have hok := refEntry_ok st
  rw [hE] at hok
  have hcons : s9.2 = false → s9.1.length + 14 ≤ st.1.length := by
    intro hb
    have h2 := congrArg List.length (hok hb).2
    rw [List.length_append] at h2
    have := enBytes_pos e
    simp only at h2
    omega
  refine ⟨⟨s9, zs ++ [(e, nv)], f, hT1, ?_, hide (by rw [ha]; simp), ?_⟩, ?_⟩
  · cases hb : s9.2 with
    | true => exact .inl rfl
    | false => have := hcons hb; right; omega
  · cases hb : s9.2 with
    | false => have := hcons hb; omega
    | true =>
      have : s9 = (refEntry st).2 := by rw [hE]
      rw [this]
      exact Nat.le_trans (refEntry_le st) hle
  · rw [hT1.rb, hT.rb, rMeas_is, rMeas_is, hst2]
    cases hb : s9.2 with
    | true => simp
    | false => have := hcons hb; simp; omega

theorem TInv.ents_fb {w0 w w' : World} {s : List UInt8 × Bool} {vl : Value} {zs : List (En × Value)} (h : TInv w0 w s vl zs) (hk : Kept (At w0.heap.size) w w') : EntsAt w' vl zs :=
  ⟨CellsAt.ofOwns (hk.owns h.own (owns_ne h.own h.fb (by decide))), fun z hz => CellsAt.ofOwns (hk.owns (h.nts z hz) (owns_ne (h.nts z hz) h.fb (by decide)))⟩

def treeAns (s : List UInt8) : List En × Int :=
  if s.length > 65536 then ([], 7) else
  if (refAll (s.length + 1) (s, false)).2 = true then ([], 4) else
  if isTreeB (refAll (s.length + 1) (s, false)).1 = false then ([], 4) else ((refAll (s.length + 1) (s, false)).1, 0)

set_option maxRecDepth 100000 in
set_option maxHeartbeats 8000000 in
theorem TreeR_any (s : List UInt8) (w : World) (hs : s.length ≤ 2000000) :
    Calls Tryd.prog 13 #[.string ⟨s.toArray⟩] w fun e w' => ∃ vl zs, e = .returned (.tuple #[vl, .agg #[.int .i64 (treeAns s).2, .string ⟨#[]⟩]]) ∧ Kept NoB w w' ∧ zs.map (·.1) = (treeAns s).1 ∧ EntsAt w' vl zs := by
  have hsz : (⟨s.toArray⟩ : ByteArray).size = s.length := mk_size s
  by_cases hlong : s.length > 65536
  · have HT : Hid (treeAns s = ([], 7)) := by unfold Hid treeAns; rw [if_pos hlong]
    go_enter Tryd.func13, Tryd.ntmps13
    go_wp2_with fail
    refine bodyPost_ret (v := .tuple #[.slice none 0 0, .agg #[.int .i64 7, .string ⟨#[]⟩]]) (by simp [results, Tryd.results13, go_sem]) rfl ⟨.slice none 0 0, [], by rw [HT.out], (Kept.refl NoB w).alloc _, by rw [HT.out]; rfl, EntsAt.nil _⟩
  · go_enter Tryd.func13, Tryd.ntmps13
    go_wp2_with fail
    go_loopw [5] (fun vl wr => ∃ st zs f, TInv w wr st vl zs ∧ (st.2 = true ∨ st.1.length < f) ∧ Hid (refAll (s.length + 1) (s, false) = (zs.map (·.1) ++ (refAll f st).1, (refAll f st).2)) ∧ st.1.length ≤ s.length) (fun _ wr => rMeas (wr.heap[w.heap.size + 1]?))
    case atStart =>
      refine ⟨(s, false), [], s.length + 1, ⟨?_, ?_, World.ownsRow_nil _ _ _ _, (fun z hz => by cases hz), ((Kept.refl NoB w).alloc _).alloc _⟩, Or.inr (Nat.lt_succ_self _), hide (by simp), Nat.le_refl _⟩
      · exact heap_alloc2_old w _ _
      · exact heap_alloc2_new w _ _
    case round =>
      obtain ⟨st, zs, f, hT, hf, hall, hle⟩ := hrel
      obtain ⟨c0, c1, c2⟩ := row2 hT.rb
      have hzl : zs.length ≤ 65537 := by
        have h1 := refAll_len (s.length + 1) (s, false) rfl
        rw [hall.out] at h1
        simp at h1
        omega
      by_cases hgo : st.1 = [] ∨ st.2 = true
      · have hres : refAll (s.length + 1) (s, false) = (zs.map (·.1), st.2) := by
          rw [hall.out, refAll_stop f st hgo]; simp
        obtain ⟨g0, g1, g2⟩ := row2 hT.fb
        cases hb : st.2 with
        | true =>
          have HA : Hid (treeAns s = ([], 4)) := by
            unfold Hid treeAns
            rw [if_neg hlong, hres, if_pos hb]
          rw [hb] at c1
          clear hres hall
          by_cases hemp : st.1.isEmpty = true
          all_goals
            go_wp2_with fail
            refine bodyPost_ret (v := .tuple #[.slice none 0 0, .agg #[.int .i64 4, .string ⟨#[]⟩]]) (by simp [results, Tryd.results13, go_sem, (two_set g0 g1 _ _).1, (two_set g0 g1 _ _).2]) rfl ⟨.slice none 0 0, [], by rw [HA.out], ?_, by rw [HA.out]; rfl, EntsAt.nil _⟩
            exact (hT.kept.setCell _ (fun h => absurd h (Nat.lt_irrefl _)) _).setCell _ (fun h => absurd h (Nat.lt_irrefl _)) _
        | false =>
          have hnil : st.1 = [] := by
            rcases hgo with h | h
            · exact h
            · rw [hb] at h; cases h
          have hemp : st.1.isEmpty = true := by rw [hnil]; rfl
          rw [hb] at c1 hres
          obtain ⟨_, hstr⟩ := refAll_ok (s.length + 1) (s, false) (Nat.lt_succ_self _) (by rw [hres])
          rw [hres] at hstr
          simp only at hstr
          have HSTR := hide hstr
          have HRES := hide hres
          have hzl2 : zs.length ≤ 65536 := by
            have := stream_count (zs.map (·.1))
            rw [← hstr] at this
            simp at this
            omega
          have HB : Hid (∀ z ∈ zs, z.1.path.size ≤ 2000000 ∧ z.1.notes.length ≤ 2000000 ∧ z.1.content.size ≤ 2000000) := by
            intro z hz
            have h1 := stream_parts (zs.map (·.1)) z.1 (List.mem_map_of_mem hz)
            rw [← hstr] at h1
            omega
          have HTL : Hid ((streamB (zs.map (·.1))).length ≤ 1000000000) := by unfold Hid; rw [← hstr]; omega
          have HTI := hide hT
          obtain ⟨uao, ucap, hu5⟩ := owns_shape hT.own
          clear hstr hres hall hT hf hle hgo hnil
          subst hu5
          go_wp2_with fail
          refine (StreamR_any zs _ _ HTI.out.ents (by omega) HB.out HTL.out).mono ?_
          rintro r w1 ⟨rfl, hk1⟩
          clear g0 g1 g2
          have f0 := fun o => (((Kept.refl NoB w1).alloc o)).heapN (hk1.heapN HTI.out.fb)
          have g0 := fun o => (row2 (f0 o)).1
          have g1 := fun o => (row2 (f0 o)).2.1
          have g2 := fun o => (row2 (f0 o)).2.2
          have HKK := hide (HTI.out.kept.trans hk1)
          clear f0
          cases hok : isTreeB (zs.map (·.1)) with
          | false =>
            have HSA : Hid (streamAns (zs.map (·.1)) = ([], 8)) := by unfold Hid streamAns; rw [if_pos hok]
            have HA : Hid (treeAns s = ([], 4)) := by
              unfold Hid treeAns
              rw [if_neg hlong, HRES.out, if_neg (by simp), if_pos hok]
            rw [HSA.out]
            go_wp2_with fail
            refine bodyPost_ret (v := .tuple #[.slice none 0 0, .agg #[.int .i64 4, .string ⟨#[]⟩]]) (by simp [results, Tryd.results13, go_sem, (two_set (g0 _) (g1 _) _ _).1, (two_set (g0 _) (g1 _) _ _).2]) rfl ⟨.slice none 0 0, [], by rw [HA.out], ?_, by rw [HA.out]; rfl, EntsAt.nil _⟩
            exact ((HKK.out.alloc _).setCell _ (fun h => absurd h (Nat.lt_irrefl _)) _).setCell _ (fun h => absurd h (Nat.lt_irrefl _)) _
          | true =>
            have HSA : Hid (streamAns (zs.map (·.1)) = (s, 0)) := by
              unfold Hid streamAns
              rw [if_neg (by rw [hok]; decide), if_neg (by rw [← HSTR.out]; exact hlong), ← HSTR.out]
            have HA : Hid (treeAns s = (zs.map (·.1), 0)) := by
              unfold Hid treeAns
              rw [if_neg hlong, HRES.out, if_neg (by simp), if_neg (by rw [hok]; decide)]
            rw [HSA.out]
            go_wp2_with fail
            refine bodyPost_ret (v := .tuple #[.slice uao zs.length ucap, .agg #[.int .i64 0, .string ⟨#[]⟩]]) (by simp [results, Tryd.results13, go_sem, (two_set (g0 _) (g1 _) _ _).1, (two_set (g0 _) (g1 _) _ _).2]) rfl ⟨_, zs, by rw [HA.out], ?_, by rw [HA.out], ?_⟩
            · exact ((HKK.out.alloc _).setCell _ (fun h => absurd h (Nat.lt_irrefl _)) _).setCell _ (fun h => absurd h (Nat.lt_irrefl _)) _
            · have hkA : Kept (At w.heap.size) wr w1 := hk1.mono (fun _ _ h => h.elim)
              exact HTI.out.ents_fb (((hkA.alloc _).setCell ⟨w.heap.size, 0, none⟩ (fun _ => rfl) _).setCell ⟨w.heap.size, 1, none⟩ (fun _ => rfl) _)
      · obtain ⟨hg1, hg2⟩ : st.1 ≠ [] ∧ st.2 = false := by
          simpa using hgo
        have hemp : st.1.isEmpty = false := by simpa using hg1
        rw [hg2] at c1
        go_wp2_with fail
        have hB : BInv w (wr.alloc (.cells #[.string ⟨#[]⟩, .int .i64 0, .int .i64 0, .int .i64 0, .slice none 0 0, .string ⟨#[]⟩] 55)) st u5 zs wr.heap.size ⟨⟨#[]⟩, 0, 0, 0, [], ⟨#[]⟩⟩ (.slice none 0 0) := by
          have hk : Kept NoB wr (wr.alloc (.cells #[.string ⟨#[]⟩, .int .i64 0, .int .i64 0, .int .i64 0, .slice none 0 0, .string ⟨#[]⟩] 55)) := (Kept.refl NoB wr).alloc _
          have hlt := (Array.getElem?_eq_some_iff.1 hT.rb).1
          exact ⟨⟨hk.heapN hT.fb, hk.heapN hT.rb, hk.owns hT.own (fun _ _ x => x), fun z hz => hk.owns (hT.nts z hz) (fun _ _ x => x), hT.kept.trans hk⟩, ⟨heap_alloc_new wr _, World.ownsRow_nil _ _ _ _⟩, hlt, fun k hk => (hT.own.lt k hk).2, fun z hz k hk => ((hT.nts z hz).lt k hk).2⟩
        have HT := hide hT
        clear hT c0 c1 c2
        obtain ⟨s0, hs0⟩ : ∃ s0, s0 = st := ⟨_, rfl⟩
        have HS0 := hide hs0
        have hle0 := hle
        rw [← hs0] at hB hle
        clear hs0
        refine (num_call 1 1 rfl s0 (w.heap.size + 1) _ (by omega) (by decide) hB.t.rb).mono ?_
        rintro r wx1 ⟨k1, s1, Q1, rfl, hr, hk, hl1, hlt1⟩
        have hB := hB.reader hk hr
        clear hr hk
        obtain ⟨b0, b1, b2, b3, b4, b5, b6⟩ := box_cells hB.e.box
        go_wp2_with fail
        have hB := hB.store 1 (.int .i64 k1) ⟨⟨#[]⟩, k1, 0, 0, [], ⟨#[]⟩⟩ rfl rfl
        clear b0 b1 b2 b3 b4 b5 b6
        refine (num_call 1 1 rfl s1 (w.heap.size + 1) _ (by omega) (by decide) hB.t.rb).mono ?_
        rintro r wx2 ⟨k2, s2, Q2, rfl, hr, hk, hl2, hlt2⟩
        have hB := hB.reader hk hr
        clear hr hk
        go_wp2_with fail
        refine (take_call k2 s2 (w.heap.size + 1) _ (by omega) (by omega) hB.t.rb).mono ?_
        rintro r wx3 ⟨p3, s3, Q3, rfl, hr, hk, hl3⟩
        have hB := hB.reader hk hr
        clear hr hk
        obtain ⟨b0, b1, b2, b3, b4, b5, b6⟩ := box_cells hB.e.box
        go_wp2_with fail
        have hB := hB.store 0 (.string ⟨p3.toArray⟩) ⟨⟨p3.toArray⟩, k1, 0, 0, [], ⟨#[]⟩⟩ rfl rfl
        clear b0 b1 b2 b3 b4 b5 b6
        refine (num_call 2 2 rfl s3 (w.heap.size + 1) _ (by omega) (by decide) hB.t.rb).mono ?_
        rintro r wx4 ⟨k4, s4, Q4, rfl, hr, hk, hl4, hlt4⟩
        have hB := hB.reader hk hr
        clear hr hk
        obtain ⟨b0, b1, b2, b3, b4, b5, b6⟩ := box_cells hB.e.box
        go_wp2_with fail
        have hB := hB.store 2 (.int .i64 k4) ⟨⟨p3.toArray⟩, k1, k4, 0, [], ⟨#[]⟩⟩ rfl rfl
        clear b0 b1 b2 b3 b4 b5 b6
        refine (num_call 5 5 rfl s4 (w.heap.size + 1) _ (by omega) (by decide) hB.t.rb).mono ?_
        rintro r wx5 ⟨k5, s5, Q5, rfl, hr, hk, hl5, hlt5⟩
        have hB := hB.reader hk hr
        clear hr hk
        obtain ⟨b0, b1, b2, b3, b4, b5, b6⟩ := box_cells hB.e.box
        go_wp2_with fail
        have hB := hB.store 3 (.int .i64 k5) ⟨⟨p3.toArray⟩, k1, k4, k5, [], ⟨#[]⟩⟩ rfl rfl
        clear b0 b1 b2 b3 b4 b5 b6
        refine (num_call 1 1 rfl s5 (w.heap.size + 1) _ (by omega) (by decide) hB.t.rb).mono ?_
        rintro r wx6 ⟨k6, s6, Q6, rfl, hr, hk, hl6, hlt6⟩
        have hB := hB.reader hk hr
        clear hr hk
        go_wp2_with fail
        generalize wr.heap.size = eb at hB ⊢
        go_loopw [8] (fun i w2 => ∃ (j : Nat) (sj : List UInt8 × Bool) (nv : Value) (ns : List Nt), j ≤ k6 ∧ i = .int .i64 j ∧ BInv w w2 sj u5 zs eb ⟨⟨p3.toArray⟩, k1, k4, k5, ns, ⟨#[]⟩⟩ nv ∧ ns.length = j ∧ Hid (refNotes k6 s6 = (ns ++ (refNotes (k6 - j) sj).1, (refNotes (k6 - j) sj).2)) ∧ sj.1.length ≤ s.length) (fun i _ => k6 - (intOf i).toNat)
        case atStart => exact ⟨0, s6, _, [], by omega, rfl, hB, rfl, hide (by simp), by omega⟩
        case round =>
          obtain ⟨j, sj, nv, ns, hjk, rfl, hB, hnl, HRN, hsj⟩ := hrel
          have HNL := hide hnl
          clear hnl
          obtain ⟨c0, c1, c2⟩ := row2 hB.t.rb
          obtain ⟨nao, ncap, rfl⟩ := owns_shape hB.e.own
          by_cases hin : j < k6 ∧ sj.2 = false
          · obtain ⟨hi1, hi2⟩ := hin
            rw [hi2] at c1
            have HST := hide (refNotes_step (k6 - j - 1) sj hi2)
            go_wp2_with fail
            clear c0 c1 c2
            refine (num_call 1 1 rfl sj (w.heap.size + 1) _ (by omega) (by decide) hB.t.rb).mono ?_
            rintro r wx11 ⟨k11, s11, Q11, rfl, hr, hk, hl11, hlt11⟩
            have hB := hB.reader hk hr
            clear hr hk
            go_wp2_with fail
            refine (take_call k11 s11 (w.heap.size + 1) _ (by omega) (by omega) hB.t.rb).mono ?_
            rintro r wx12 ⟨p12, s12, Q12, rfl, hr, hk, hl12⟩
            have hB := hB.reader hk hr
            clear hr hk
            go_wp2_with fail
            refine (num_call 1 1 rfl s12 (w.heap.size + 1) _ (by omega) (by decide) hB.t.rb).mono ?_
            rintro r wx13 ⟨k13, s13, Q13, rfl, hr, hk, hl13, hlt13⟩
            have hB := hB.reader hk hr
            clear hr hk
            go_wp2_with fail
            refine (take_call k13 s13 (w.heap.size + 1) _ (by omega) (by omega) hB.t.rb).mono ?_
            rintro r wx14 ⟨p14, s14, Q14, rfl, hr, hk, hl14⟩
            have hB := hB.reader hk hr
            clear hr hk
            obtain ⟨b0, b1, b2, b3, b4, b5, b6⟩ := box_cells hB.e.box
            have hnl2 : ns.length ≤ 256 := by rw [HNL.out]; omega
            have HOW := hide hB.e.own
            have hsz2 := (Array.getElem?_eq_some_iff.1 hB.e.box).1
            go_wp2_with (at_builtin; refine wpList_append2 _ rfl (.tmp 74) (.tmp 78) 53 53 rfl eb 59 zeroNt 2 32 Tryd.underlying53 info59 rfl _ _ _ rfl (HOW.out.alloc _) (.slice (some ⟨wx14.heap.size, 0, none⟩) 1 1) 1 (ntCells ⟨⟨p12.toArray⟩, ⟨p14.toArray⟩⟩) rfl (Src.ofSlice _ Tryd.underlying53 _ 1 1 _ rfl (two_new _ _ _ _) (by intro u hu; simp [ntCells] at hu; rcases hu with rfl | rfl <;> rfl)) (show (ns.length + 1) * 32 ≤ _ by omega) (show ns.length + 1 ≤ maxLen by unfold maxLen; omega) (by simp; omega) ?_; intro v' w1 hown' hold' hg1 hl1; obtain ⟨vao, vcap, rfl⟩ := owns_shape hown'; obtain ⟨_, _, _, _, d4, _, d6⟩ := box_cells (hB.boxKept hg1))
            go_roundw
            case rel =>
              refine ⟨j + 1, s14, _, ns ++ [⟨⟨p12.toArray⟩, ⟨p14.toArray⟩⟩], by omega, by go_num, hB.note ⟨⟨p12.toArray⟩, ⟨p14.toArray⟩⟩ hown' hg1, by simp [HNL.out], hide ?_, by omega⟩
              have e1 : k6 - j = (k6 - j - 1) + 1 := by omega
              have e2 : k6 - (j + 1) = k6 - j - 1 := by omega
              have hst := HST.out
              rw [Q11.out] at hst
              simp only at hst
              rw [Q12.out] at hst
              simp only at hst
              rw [Q13.out] at hst
              simp only at hst
              rw [Q14.out] at hst
              simp only at hst
              rw [HRN.out, e1, hst, e2]
              simp
            case measure => simp [intOf]; omega
          · have HNS : Hid (refNotes k6 s6 = (ns, sj)) := by
              unfold Hid
              rw [HRN.out]
              by_cases h1 : j < k6
              · have h2 : sj.2 = true := by
                  cases hb : sj.2 with
                  | true => rfl
                  | false => exact absurd ⟨h1, hb⟩ hin
                rw [refNotes_bad _ _ h2]; simp
              · rw [show k6 - j = 0 by omega]; simp [refNotes]
            have hex : (j < k6 ∧ sj.2 = true) ∨ ¬ j < k6 := by
              by_cases h1 : j < k6
              · left
                refine ⟨h1, ?_⟩
                cases hb : sj.2 with
                | true => rfl
                | false => exact absurd ⟨h1, hb⟩ hin
              · exact .inr h1
            clear hin HRN
            rcases hex with ⟨hx1, hx2⟩ | hx1
            rotate_left
            all_goals
              try rw [hx2] at c1
              go_wp2_with fail
              clear c0 c1 c2
              try clear hx2
              clear hx1
              refine (num_call 4 4 rfl sj (w.heap.size + 1) _ (by omega) (by decide) hB.t.rb).mono ?_
              rintro r wx21 ⟨k21, s21, Q21, rfl, hr, hk, hl21, hlt21⟩
              have hB := hB.reader hk hr
              clear hr hk
              go_wp2_with fail
              refine (take_call k21 s21 (w.heap.size + 1) _ (by omega) (by omega) hB.t.rb).mono ?_
              rintro r wx22 ⟨p22, s22, Q22, rfl, hr, hk, hl22⟩
              have hB := hB.reader hk hr
              clear hr hk
              obtain ⟨b0, b1, b2, b3, b4, b5, b6⟩ := box_cells hB.e.box
              have hB2 := hB.store 5 (.string ⟨p22.toArray⟩) ⟨⟨p3.toArray⟩, k1, k4, k5, ns, ⟨p22.toArray⟩⟩ rfl rfl
              obtain ⟨b0', b1', b2', b3', b4', b5', b6'⟩ := box_cells hB2.e.box
              have HOW := hide hB2.t.own
              have HB2 := hide hB2
              have hsz2 := hB2.t.kept.size
              simp only [size_setCell'] at hsz2
              clear hB2
              go_wp2_with (at_builtin; refine wpList_append2 _ rfl (.tmp 87) (.tmp 89) 22 22 rfl w.heap.size 55 zeroEn 6 80 Tryd.underlying22 info55 rfl _ _ _ rfl (HOW.out.alloc _) (.slice (some ⟨wx22.heap.size, 0, none⟩) 1 1) 1 (enCells (⟨⟨p3.toArray⟩, k1, k4, k5, ns, ⟨p22.toArray⟩⟩, .slice nao ns.length ncap)) rfl (Src.ofSlice _ Tryd.underlying22 _ 1 1 _ rfl (row_new' _ _ _ _ _ rfl (by simp)) (by intro u hu; simp [enCells] at hu; rcases hu with rfl | rfl | rfl | rfl | rfl | rfl <;> rfl)) (by omega) (by unfold maxLen; omega) (by simp; omega) ?_; intro v' w1 hown' hold' hg1 hl1)
              exact tree_round s w HT.out hgo hf hall hle0 HB2.out (by simpa using hown') hg1 (by rw [← HS0.out]; exact refEntry_is Q1.out Q2.out Q3.out Q4.out Q5.out Q6.out HNS.out Q21.out Q22.out)
end Go.Proofs.YtidioioldlmciaaDoor
