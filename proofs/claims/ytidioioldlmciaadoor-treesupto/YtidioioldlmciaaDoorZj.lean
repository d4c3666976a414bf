import Derived.Test.YtidioioldlmciaaDoorG
import Derived.Test.YtidioioldlmciaaDoorRows
import Derived.Deep.SlicePairs
namespace Go.Proofs.YtidioioldlmciaaDoor
open Go Go.RowKit Go.ChangeShapes Go.WideShapes Go.Deep

/-! what the bound on the bulk gives of a list of entries that was handed in -/

theorem bulk_one {H : Type} (d : DataW H) : 1 ≤ Rows.uptoBulk d := by
  cases d with
  | lit l => cases l <;> simp [Rows.uptoBulk]
  | nil => simp [Rows.uptoBulk]
  | ptr d => simp [Rows.uptoBulk]
  | slice elems spare => simp [Rows.uptoBulk]
  | agg parts => simp [Rows.uptoBulk]
  | iface t d => simp [Rows.uptoBulk]
  | map entries => simp [Rows.uptoBulk]
  | held h => simp [Rows.uptoBulk]

/-- a list's bulk bounds whatever its parts' bulks bound -/
theorem bulk_sum {H α : Type} (f : α → List UInt8) (g : Nat → α) (D : Nat → DataW H) (c : Nat) (l : List Nat) (h : ∀ i ∈ l, (f (g i)).length ≤ c * Rows.uptoBulk (D i)) :
    ((l.map g).flatMap f).length ≤ c * Rows.uptoBulkAll (l.map D) := by
  induction l with
  | nil => simp
  | cons x l ih =>
    have h1 := h x (by simp)
    have h2 := ih (fun i hi => h i (by simp [hi]))
    simp only [List.map_cons, List.flatMap_cons, List.length_append, Rows.uptoBulkAll, Nat.mul_add]
    omega
theorem bulk_len {H : Type} (l : List (DataW H)) : l.length ≤ Rows.uptoBulkAll l := by
  induction l with
  | nil => simp
  | cons x r ih => have := bulk_one x; simp only [Rows.uptoBulkAll, List.length_cons]; omega
theorem bulk_part {H : Type} {d : DataW H} {l : List (DataW H)} (h : d ∈ l) : Rows.uptoBulk d ≤ Rows.uptoBulkAll l := by
  induction l with
  | nil => cases h
  | cons x r ih =>
    simp only [Rows.uptoBulkAll]
    cases List.mem_cons.1 h with
    | inl e => subst e; omega
    | inr e => have := ih e; omega


theorem spot_none {w : World} {a : Addr} {v : Value} (h : w.cell? (a.add 0) = some v) : a.spot = none := by
  simpa [Addr.add] using World.cell?_spot h

/-- rows of m cells each, as a list of cells -/
theorem cells_of_rows {α : Type} {w : World} {a : Addr} {n cap m : Nat} {f : α → List Value} {g : Nat → α} (hm : 0 < m) (hf : ∀ x, (f x).length = m) (hn : n ≤ cap)
    (h : ∀ i, i < n → ∀ j, j < m → w.cell? (a.add (i * m + j)) = (f (g i))[j]?) : CellsAt w (.slice (some a) n cap) m n (((List.range n).map g).flatMap f) := by
  have hl := flat_len f m hf ((List.range n).map g)
  refine ⟨by simpa using hl, some a, cap, rfl, hn, fun h0 => ?_⟩
  have hs : a.spot = none := by
    have h1 := h 0 h0 0 hm
    rw [Nat.zero_mul, Nat.zero_add] at h1
    have h2 : 0 < (f (g 0)).length := by rw [hf]; exact hm
    rw [List.getElem?_eq_getElem h2] at h1
    exact spot_none h1
  obtain ⟨b, o, spot⟩ := a
  simp only at hs
  subst hs
  refine ⟨b, o, rfl, fun j hj => ?_⟩
  have hq : j / m < n := by rw [Nat.div_lt_iff_lt_mul hm]; exact hj
  have hr : j % m < m := Nat.mod_lt _ hm
  have e1 := h (j / m) hq (j % m) hr
  have e2 := flat_at f m hf ((List.range n).map g) (j / m) (j % m) (by simpa using hq) hr
  have e3 : j / m * m + j % m = j := by rw [Nat.mul_comm]; exact Nat.div_add_mod j m
  rw [e3] at e1 e2
  rw [e2]
  rw [add_plain] at e1
  simpa using e1

theorem cellsN9 : Tryd.prog.cellsOf 9 = 1 := by kernel_rfl
theorem cellsN3 : Tryd.prog.cellsOf 3 = 1 := by kernel_rfl
theorem cellsN53 : Tryd.prog.cellsOf 53 = 1 := by kernel_rfl
theorem cellsN59 : Tryd.prog.cellsOf 59 = 2 := by kernel_rfl
theorem cellsN55 : Tryd.prog.cellsOf 55 = 6 := by kernel_rfl
instance : Inhabited Nt := ⟨⟨ByteArray.empty, ByteArray.empty⟩⟩
instance : Inhabited En := ⟨⟨ByteArray.empty, 0, 0, 0, [], ByteArray.empty⟩⟩

theorem list6 {α : Type} (l : List α) (h : l.length = 6) : ∃ a b c d e f, l = [a, b, c, d, e, f] := by
  rcases l with _ | ⟨a, _ | ⟨b, _ | ⟨c, _ | ⟨d, _ | ⟨e, _ | ⟨f, _ | ⟨g, r⟩⟩⟩⟩⟩⟩⟩
  all_goals first | exact ⟨_, _, _, _, _, _, rfl⟩ | (simp at h)

theorem open_notes {H : Type} {enc : TypeId × Value → H} {W : World} {fuel : Nat} {v : Value} {x : DataW H × List MemPlace}
    (h : DataW.trod enc Tryd.prog W 0 (fun _ => true) true fuel 53 [v] = some x) :
    ∃ ns : List Nt, NotesAt W v ns ∧ ns.length ≤ Rows.uptoBulk x.1 ∧ (ns.flatMap ntBytes).length ≤ 4 * Rows.uptoBulk x.1 := by
  rcases open_slice_pairs Tryd.underlying53 Tryd.underlying59 cellsN59 rfl rfl cellsN9 cellsN9 h with ⟨hcs, rfl⟩ | ⟨a, len, cap, m, n, V0, V1, D0, D1, P0, P1, hcs, _, hl, _, hm, rfl, hx⟩
  · obtain rfl : v = .slice none 0 0 := by simpa using hcs
    exact ⟨[], ⟨rfl, none, 0, rfl, Nat.le_refl _, fun h => absurd h (Nat.lt_irrefl _)⟩, by simp, by simp⟩
  · obtain rfl : v = .slice (some a) len cap := by simpa using hcs
    have hlm : len ≤ m := by rw [hm]; simpa using hl
    have each : ∀ i, i < len → ∃ q : Nt, V0 i = .string q.name ∧ V1 i = .string q.text ∧ D0 i = .lit (.string q.name.data.toList) ∧ D1 i = .lit (.string q.text.data.toList) := by
      intro i hi
      obtain ⟨_, _, h0, h1⟩ := hx i (by omega)
      obtain ⟨s0, e0, f0, _⟩ := DataW.trod_string Tryd.underlying9 h0
      obtain ⟨s1, e1, f1, _⟩ := DataW.trod_string Tryd.underlying9 h1
      exact ⟨⟨s0, s1⟩, by simpa using e0, by simpa using e1, congrArg Prod.fst f0, congrArg Prod.fst f1⟩
    obtain ⟨q, hq⟩ := choose_lt each
    refine ⟨(List.range len).map q, ?_, ?_, ?_⟩
    · have := cells_of_rows (w := W) (a := a) (n := len) (cap := cap) (m := 2) (f := ntCells) (g := q) (by decide) (fun _ => rfl) hl (fun i hi j hj => by
        obtain ⟨c0, c1, _, _⟩ := hx i (by omega)
        obtain ⟨e0, e1, _, _⟩ := hq i hi
        match j, hj with
        | 0, _ => rw [Nat.add_zero, c0, e0]; rfl
        | 1, _ => rw [c1, e1]; rfl)
      unfold NotesAt
      rwa [List.length_map, List.length_range]
    · have := bulk_len ((List.range len).map fun i => DataW.agg [D0 i, D1 i])
      simp only [List.length_map, List.length_range] at this
      simp only [Rows.uptoBulk, List.length_map, List.length_range]
      omega
    · have := bulk_sum ntBytes q (fun i => DataW.agg [D0 i, D1 i]) 4 (List.range len) (fun i hi => by
        obtain ⟨_, _, e0, e1⟩ := hq i (List.mem_range.1 hi)
        rw [e0, e1]
        simp only [ntBytes, List.length_append, numB_len, Rows.uptoBulk, Rows.uptoBulkAll]
        omega)
      simp only [Rows.uptoBulk]
      omega

theorem open_ents {H : Type} {enc : TypeId × Value → H} {W : World} {fuel : Nat} {v : Value} {x : DataW H × List MemPlace}
    (h : DataW.trod enc Tryd.prog W 0 (fun _ => true) true fuel 22 [v] = some x) :
    ∃ zs : List (En × Value), EntsAt W v zs ∧ zs.length ≤ Rows.uptoBulk x.1 ∧
      (∀ z ∈ zs, z.1.path.size ≤ Rows.uptoBulk x.1 ∧ z.1.notes.length ≤ Rows.uptoBulk x.1 ∧ z.1.content.size ≤ Rows.uptoBulk x.1) ∧ (streamB (zs.map (·.1))).length ≤ 20 * Rows.uptoBulk x.1 := by
  rcases open_slice Tryd.underlying22 h with ⟨hcs, rfl⟩ | ⟨a, len, cap, m, n, D, Pl, hcs, _, hl, _, hm, rfl, hx⟩
  · obtain rfl : v = .slice none 0 0 := by simpa using hcs
    exact ⟨[], ⟨⟨rfl, none, 0, rfl, Nat.le_refl _, fun h => absurd h (Nat.lt_irrefl _)⟩, fun z hz => (by cases hz)⟩, by simp, fun z hz => (by cases hz), by simp [streamB]⟩
  · obtain rfl : v = .slice (some a) len cap := by simpa using hcs
    have hlm : len ≤ m := by rw [hm]; simpa using hl
    have each : ∀ i, i < len → ∃ z : En × Value, (∀ j, j < 6 → W.cell? (a.add (i * 6 + j)) = (enCells z)[j]?) ∧ NotesAt W z.2 z.1.notes ∧
        (z.1.path.size ≤ Rows.uptoBulk (D i) ∧ z.1.notes.length ≤ Rows.uptoBulk (D i) ∧ z.1.content.size ≤ Rows.uptoBulk (D i)) ∧ (enBytes z.1).length ≤ 20 * Rows.uptoBulk (D i) := by
      intro i hi
      obtain ⟨cs', h1, h2⟩ := hx i (by omega)
      rw [cellsN55] at h1
      obtain ⟨_, hlen, hcell⟩ := World.cells?_some h1
      obtain ⟨xs, k, hk, hxy, _, hxl, hf⟩ := DataW.trod_struct Tryd.underlying55 h2
      obtain ⟨y0, y1, y2, y3, y4, y5, rfl⟩ := list6 xs hxl
      obtain ⟨v0, v1, v2, v3, v4, v5, rfl⟩ := list6 cs' hlen
      have g0 := hf 0 _ rfl
      have g1 := hf 1 _ rfl
      have g2 := hf 2 _ rfl
      have g3 := hf 3 _ rfl
      have g4 := hf 4 _ rfl
      have g5 := hf 5 _ rfl
      simp [cellsN9, cellsN3, cellsN53] at g0 g1 g2 g3 g4 g5
      obtain ⟨s0, e0, f0, _⟩ := DataW.trod_string Tryd.underlying9 g0
      obtain ⟨n1, e1, f1, _⟩ := DataW.trod_int Tryd.underlying3 g1
      obtain ⟨n2, e2, f2, _⟩ := DataW.trod_int Tryd.underlying3 g2
      obtain ⟨n3, e3, f3, _⟩ := DataW.trod_int Tryd.underlying3 g3
      obtain ⟨ns, hn1, hn2, hn3⟩ := open_notes g4
      obtain ⟨s5, e5, f5, _⟩ := DataW.trod_string Tryd.underlying9 g5
      obtain rfl : v0 = .string s0 := by simpa using e0
      obtain rfl : v1 = .int .i64 n1 := by simpa using e1
      obtain rfl : v2 = .int .i64 n2 := by simpa using e2
      obtain rfl : v3 = .int .i64 n3 := by simpa using e3
      obtain rfl : v5 = .string s5 := by simpa using e5
      have hD : D i = .agg [y0.1, y1.1, y2.1, y3.1, y4.1, y5.1] := congrArg Prod.fst hxy
      have hB : Rows.uptoBulk (D i) = s0.size + s5.size + Rows.uptoBulk y4.1 + 6 := by
        rw [hD, f0, f1, f2, f3, f5]
        simp only [Rows.uptoBulk, Rows.uptoBulkAll]
        show _ = s0.data.size + s5.data.size + _ + 6
        simp only [Array.length_toList]
        omega
      refine ⟨(⟨s0, n1, n2, n3, ns, s5⟩, v4), fun j hj => ?_, hn1, ⟨?_, ?_, ?_⟩, ?_⟩
      · have := hcell j hj
        rw [add_add] at this
        exact this
      · show s0.size ≤ _
        omega
      · show ns.length ≤ _
        omega
      · show s5.size ≤ _
        omega
      · have h5 : s5.data.toList.length = s5.size := Array.length_toList
        have h0 : s0.data.toList.length = s0.size := Array.length_toList
        simp only [enBytes, headBytes, List.length_append, numB_len, h5, h0]
        omega
    obtain ⟨q, hq⟩ := choose_lt each
    have hbd : ∀ i, i < len → Rows.uptoBulk (D i) ≤ Rows.uptoBulkAll ((List.range len).map D) := fun i hi => bulk_part (List.mem_map.2 ⟨i, List.mem_range.2 hi, rfl⟩)
    refine ⟨(List.range len).map q, ⟨?_, ?_⟩, ?_, ?_, ?_⟩
    · have := cells_of_rows (w := W) (a := a) (n := len) (cap := cap) (m := 6) (f := enCells) (g := q) (by decide) (fun _ => rfl) hl (fun i hi j hj => (hq i hi).1 j hj)
      rwa [List.length_map, List.length_range]
    · intro z hz
      obtain ⟨i, hi, rfl⟩ := List.mem_map.1 hz
      exact (hq i (List.mem_range.1 hi)).2.1
    · have := bulk_len ((List.range len).map D)
      simp only [List.length_map, List.length_range] at this
      simp only [Rows.uptoBulk, List.length_map, List.length_range]
      omega
    · intro z hz
      obtain ⟨i, hi, rfl⟩ := List.mem_map.1 hz
      have h1 := (hq i (List.mem_range.1 hi)).2.2.1
      have h2 := hbd i (List.mem_range.1 hi)
      simp only [Rows.uptoBulk]
      omega
    · have := bulk_sum enBytes (fun i => (q i).1) D 20 (List.range len) (fun i hi => (hq i (List.mem_range.1 hi)).2.2.2)
      simp only [Rows.uptoBulk, streamB, List.map_map, Function.comp_def]
      omega

end Go.Proofs.YtidioioldlmciaaDoor
