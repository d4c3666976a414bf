import Derived.Test.YtidioioldlmciaaDoorC
import Derived.RegionTactic
namespace Go.Proofs.YtidioioldlmciaaDoor
open Go.RowKit

theorem upTo {p : Nat → Prop} {k : Nat} (h : ∀ j, j < k → p j) (hk : p k) : ∀ j, j < k + 1 → p j := fun j hj => by
  rcases Nat.lt_or_ge j k with h1 | h1
  · exact h j h1
  · obtain rfl : j = k := by omega
    exact hk

/-- a slice value of n elements of so many cells each, and the cells that it shows -/
def CellsAt (w : World) (v : Value) (size n : Nat) (xs : List Value) : Prop :=
  xs.length = n * size ∧ ∃ ao cap, v = .slice ao n cap ∧ n ≤ cap ∧ (0 < n → ∃ b o, ao = some ⟨b, o, none⟩ ∧ ∀ j, j < n * size → w.cell? ⟨b, o + j, none⟩ = xs[j]?)

theorem CellsAt.kept {S : Nat → Prop} {w w' : World} {v : Value} {size n : Nat} {xs : List Value} (h : CellsAt w v size n xs) (hs : 0 < size) (hk : Kept S w w') (hn : ∀ k, v.ownBlock = some k → ¬ S k) : CellsAt w' v size n xs := by
  obtain ⟨h1, ao, cap, hv, hc, h2⟩ := h
  refine ⟨h1, ao, cap, hv, hc, fun h0 => ?_⟩
  obtain ⟨b, o, rfl, h3⟩ := h2 h0
  refine ⟨b, o, rfl, fun j hj => ?_⟩
  have hlt : b < w.heap.size := by
    have h4 := h3 0 (Nat.mul_pos h0 hs)
    have h5 : 0 < xs.length := by rw [h1]; exact Nat.mul_pos h0 hs
    rw [List.getElem?_eq_getElem h5] at h4
    exact World.block_lt_of_cell? w _ h4
  rw [hk.cell (p := ⟨b, o + j, none⟩) hlt (hn b (by rw [hv]; rfl))]
  exact h3 j hj
theorem CellsAt.keptN {w w' : World} {v : Value} {size n : Nat} {xs : List Value} (h : CellsAt w v size n xs) (hs : 0 < size) (hk : Kept NoB w w') : CellsAt w' v size n xs :=
  h.kept hs hk (fun _ _ x => x)
theorem CellsAt.ofOwns {w : World} {base : Nat} {e : TypeId} {size : Nat} {v : Value} {n : Nat} {xs : List Value} (h : w.ownsRow base e size v n xs) : CellsAt w v size n xs := by
  refine ⟨h.1, ?_⟩
  rcases h.2 with ⟨rfl, rfl⟩ | ⟨g, cap, cur, rfl, hb, hg, hle, _⟩
  · exact ⟨_, _, rfl, Nat.le_refl _, fun h => absurd h (Nat.lt_irrefl _)⟩
  · exact ⟨_, _, rfl, hle, fun _ => ⟨g, 0, rfl, fun j hj => by rw [Nat.zero_add]; exact h.cellAt j hj⟩⟩
theorem CellsAt.ofRow {w : World} {g : Nat} {cs : List Value} {t : TypeId} {fr : Nat × Nat} (hg : w.heap[g]? = some (.cells cs.toArray t fr)) (size n cap : Nat) (xs : List Value) (hx : xs.length = n * size) (hc : n ≤ cap)
    (h : ∀ j, j < n * size → cs[j]? = xs[j]?) : CellsAt w (.slice (some ⟨g, 0, none⟩) n cap) size n xs :=
  ⟨hx, _, _, rfl, hc, fun _ => ⟨g, 0, rfl, fun j hj => by rw [Nat.zero_add, cell_of_row _ _ _ _ _ _ hg]; simpa using h j hj⟩⟩

/-- what the walk wants of such a slice -/
theorem CellsAt.shape {w : World} {v : Value} {size n : Nat} {xs : List Value} (h : CellsAt w v size n xs) : ∃ ao cap, v = .slice ao n cap ∧ n ≤ cap := by
  obtain ⟨_, ao, cap, hv, hc, _⟩ := h
  exact ⟨ao, cap, hv, hc⟩
theorem CellsAt.at {w : World} {ao : Option Addr} {cap : Nat} {size n : Nat} {xs : List Value} (h : CellsAt w (.slice ao n cap) size n xs) (h0 : 0 < n) : ∃ b o, ao = some ⟨b, o, none⟩ ∧ ∀ j, j < n * size → w.cell? ⟨b, o + j, none⟩ = xs[j]? := by
  obtain ⟨_, ao', cap', hv, hc, h2⟩ := h
  cases hv
  exact h2 h0

/-- a list of rows of one length -/
theorem flat_at {α : Type} (f : α → List Value) (m : Nat) (hm : ∀ x, (f x).length = m) : ∀ (l : List α) (k j : Nat) (hk : k < l.length), j < m → (l.flatMap f)[k * m + j]? = (f l[k])[j]?
  | [], k, j, hk, _ => absurd hk (Nat.not_lt_zero _)
  | x :: l, 0, j, hk, hj => by
    rw [List.flatMap_cons, Nat.zero_mul, Nat.zero_add, List.getElem?_append_left (by rw [hm]; exact hj)]; rfl
  | x :: l, k + 1, j, hk, hj => by
    rw [List.flatMap_cons, Nat.succ_mul, List.getElem?_append_right (by rw [hm]; omega), hm, show k * m + m + j - m = k * m + j by omega]
    exact flat_at f m hm l k j (by simpa using hk) hj
theorem flat_len {α : Type} (f : α → List Value) (m : Nat) (hm : ∀ x, (f x).length = m) (l : List α) : (l.flatMap f).length = l.length * m := by
  induction l with
  | nil => simp
  | cons x l ih => rw [List.flatMap_cons, List.length_append, ih, hm, List.length_cons, Nat.succ_mul]; omega

structure Nt where
  name : ByteArray
  text : ByteArray
structure En where
  path : ByteArray
  kind : Int
  mode : Int
  time : Int
  notes : List Nt
  content : ByteArray
def ntCells (n : Nt) : List Value := [.string n.name, .string n.text]
def NotesAt (w : World) (v : Value) (ns : List Nt) : Prop := CellsAt w v 2 ns.length (ns.flatMap ntCells)
def enCells (z : En × Value) : List Value := [.string z.1.path, .int .i64 z.1.kind, .int .i64 z.1.mode, .int .i64 z.1.time, z.2, .string z.1.content]
def enVal (e : En) (v : Value) : Value := .agg #[.string e.path, .int .i64 e.kind, .int .i64 e.mode, .int .i64 e.time, v, .string e.content]
def EntsAt (w : World) (v : Value) (zs : List (En × Value)) : Prop := CellsAt w v 6 zs.length (zs.flatMap enCells) ∧ ∀ z ∈ zs, NotesAt w z.2 z.1.notes

def aheadB : List (List UInt8) → List (List UInt8) → Bool
  | [], [] => false
  | [], _ :: _ => true
  | _ :: _, [] => false
  | x :: xs, y :: ys => if x = y then aheadB xs ys else Op.bytesLess x y

theorem aheadB_step (a b : List (List UInt8)) (k : Nat) (ha : k < a.length) (hb : k < b.length) : aheadB (a.drop k) (b.drop k) = if a[k] = b[k] then aheadB (a.drop (k + 1)) (b.drop (k + 1)) else Op.bytesLess a[k] b[k] := by
  rw [List.drop_eq_getElem_cons ha, List.drop_eq_getElem_cons hb]; rfl
theorem aheadB_end (a b : List (List UInt8)) (k : Nat) (hka : k ≤ a.length) (hkb : k ≤ b.length) (h : ¬ (k < a.length ∧ k < b.length)) : aheadB (a.drop k) (b.drop k) = decide (a.length < b.length) := by
  by_cases ha : k < a.length
  · have hb : k = b.length := by omega
    rw [hb, List.drop_length, List.drop_eq_getElem_cons (by omega)]
    simp [aheadB]; omega
  · obtain rfl : k = a.length := by omega
    rw [List.drop_length]
    by_cases hb : a.length < b.length
    · rw [List.drop_eq_getElem_cons hb]; simp [aheadB, hb]
    · have : a.length = b.length := by omega
      rw [this, List.drop_length]; simp [aheadB]

theorem mapS_at {w : World} {ao : Option Addr} {cap : Nat} {a : List (List UInt8)} (h : CellsAt w (.slice ao a.length cap) 1 a.length (a.map mkS)) (k : Nat) (hk : k < a.length) :
    ∃ b o, ao = some ⟨b, o, none⟩ ∧ w.cell? ⟨b, o + k, none⟩ = some (.string ⟨a[k].toArray⟩) := by
  obtain ⟨b, o, e, h2⟩ := h.at (by omega)
  refine ⟨b, o, e, ?_⟩
  rw [h2 k (by omega)]
  simp [hk, mkS]

set_option maxRecDepth 100000 in
set_option maxHeartbeats 4000000 in
theorem ahead_any (a b : List (List UInt8)) (va vb : Value) (w : World) (ha : CellsAt w va 1 a.length (a.map mkS)) (hb : CellsAt w vb 1 b.length (b.map mkS)) (hla : a.length ≤ 100000000) (hlb : b.length ≤ 100000000) :
    Calls Tryd.prog 31 #[va, vb] w fun e w' => e = .returned (.bool (aheadB a b)) ∧ Kept NoB w w' := by
  obtain ⟨aoa, capa, rfl, hca⟩ := ha.shape
  obtain ⟨aob, capb, rfl, hcb⟩ := hb.shape
  go_enter Tryd.func31, Tryd.ntmps31
  go_wp2
  go_loopw [5] (fun i wr => ∃ k : Nat, k ≤ a.length ∧ k ≤ b.length ∧ i = .int .i64 k ∧ Hid (aheadB a b = aheadB (a.drop k) (b.drop k)) ∧ Kept NoB w wr) (fun i _ => a.length - (intOf i).toNat)
  case atStart => exact ⟨0, by omega, by omega, rfl, rfl, Kept.refl _ _⟩
  case round =>
    obtain ⟨k, hka, hkb, rfl, heq, hkept⟩ := hrel
    by_cases h : k < a.length ∧ k < b.length
    · obtain ⟨h1, h2⟩ := h
      obtain ⟨ba, oa, rfl, hcella⟩ := mapS_at (ha.keptN (by decide) hkept) k h1
      obtain ⟨bb, ob, rfl, hcellb⟩ := mapS_at (hb.keptN (by decide) hkept) k h2
      have HST := hide (aheadB_step a b k h1 h2)
      by_cases heq2 : a[k] = b[k]
      · have hne : (!(a[k] == b[k])) = false := by simp [heq2]
        have HE := hide heq2
        go_wp2
        go_quiet (fail)
        go_wp2
        go_roundw
        case rel => exact ⟨k + 1, by omega, by omega, by go_num, hide (by rw [heq.out, HST.out, if_pos HE.out]), hkept.drewN nq⟩
        case measure => simp [intOf]; omega
      · have hne : (!(a[k] == b[k])) = true := by simpa using heq2
        have HE := hide heq2
        clear heq2
        go_wp2
        go_quiet (fail)
        go_wp2
        go_quiet (fail)
        go_wp2
        go_ret
        refine ⟨?_, ?_⟩
        · rw [heq.out, HST.out, if_neg HE.out]; rfl
        · exact (hkept.drewN _).drewN _
    · have hz := aheadB_end a b k hka hkb h
      rw [← heq.out] at hz
      have HZ := hide hz
      clear hz
      by_cases h1 : k < a.length
      · have h2 : ¬ k < b.length := fun h2 => h ⟨h1, h2⟩
        go_wp2
        go_ret
        exact ⟨by rw [HZ.out]; rfl, hkept⟩
      · go_wp2
        go_ret
        exact ⟨by rw [HZ.out]; rfl, hkept⟩

def noteOk (n : Nt) : Bool := !n.name.toList.isEmpty && decide (n.name.size ≤ 16) && decide (n.text.size ≤ 64)
def nOk (ns : List Nt) (i : Nat) : Bool := match ns[i]? with
  | none => true
  | some n => noteOk n && (match i with
    | 0 => true
    | j + 1 => match ns[j]? with
      | none => true
      | some m => Op.bytesLess m.name.toList n.name.toList)
def notesOk (ns : List Nt) : Bool := (List.range ns.length).all (nOk ns) && decide (ns.length ≤ 4)

theorem note_cases (n : Nt) : (noteOk n = false ∧ (n.name.toList.isEmpty = true ∨ (n.name.toList.isEmpty = false ∧ (16 : Int) < (n.name.size : Int)) ∨ (n.name.toList.isEmpty = false ∧ (n.name.size : Int) ≤ 16 ∧ (64 : Int) < (n.text.size : Int)))) ∨
    (noteOk n = true ∧ n.name.toList.isEmpty = false ∧ (n.name.size : Int) ≤ 16 ∧ (n.text.size : Int) ≤ 64) := by
  unfold noteOk
  cases h : n.name.toList.isEmpty
  · by_cases h2 : n.name.size ≤ 16
    · by_cases h3 : n.text.size ≤ 64
      · right; simp [h2, h3]; omega
      · left; simp [h2, h3]; omega
    · left; simp [h2]; omega
  · left; simp
theorem nOk_bad (ns : List Nt) (k : Nat) (hk : k < ns.length) (h : noteOk ns[k] = false) : nOk ns k = false := by
  unfold nOk; rw [List.getElem?_eq_getElem hk]; simp [h]
theorem nOk_zero (ns : List Nt) (k : Nat) (hk : k < ns.length) (h : noteOk ns[k] = true) (h0 : k = 0) : nOk ns k = true := by
  subst h0
  unfold nOk; rw [List.getElem?_eq_getElem hk]; simp [h]
theorem nOk_less (ns : List Nt) (j : Nat) (hk : j + 1 < ns.length) (h : Op.bytesLess ns[j].name.toList ns[j + 1].name.toList = false) : nOk ns (j + 1) = false := by
  unfold nOk; rw [List.getElem?_eq_getElem hk]
  simp only [List.getElem?_eq_getElem (show j < ns.length by omega), h, Bool.and_false]
theorem nOk_succ (ns : List Nt) (j : Nat) (hk : j + 1 < ns.length) (hg : noteOk ns[j + 1] = true) (h : Op.bytesLess ns[j].name.toList ns[j + 1].name.toList = true) : nOk ns (j + 1) = true := by
  unfold nOk; rw [List.getElem?_eq_getElem hk]
  simp only [List.getElem?_eq_getElem (show j < ns.length by omega), h, hg, Bool.and_true]
theorem notesOk_false (ns : List Nt) (k : Nat) (hk : k < ns.length) (h : nOk ns k = false) : notesOk ns = false := by
  unfold notesOk
  have : (List.range ns.length).all (nOk ns) = false := by
    rw [List.all_eq_false]; exact ⟨k, List.mem_range.2 hk, by simp [h]⟩
  rw [this, Bool.false_and]
theorem notesOk_all (ns : List Nt) (k : Nat) (hk : ns.length ≤ k) (h : ∀ j, j < k → nOk ns j = true) : notesOk ns = decide (ns.length ≤ 4) := by
  unfold notesOk
  have : (List.range ns.length).all (nOk ns) = true := by
    rw [List.all_eq_true]; intro j hj; exact h j (Nat.lt_of_lt_of_le (List.mem_range.1 hj) hk)
  rw [this, Bool.true_and]

theorem notes_at {w : World} {ao : Option Addr} {cap : Nat} {ns : List Nt} (h : NotesAt w (.slice ao ns.length cap) ns) (k : Nat) (hk : k < ns.length) :
    ∃ b o, ao = some ⟨b, o, none⟩ ∧ w.cell? ⟨b, o + k * 2, none⟩ = some (.string ns[k].name) ∧ w.cell? ⟨b, o + k * 2 + 1, none⟩ = some (.string ns[k].text) := by
  obtain ⟨b, o, e, h2⟩ := CellsAt.at h (by omega)
  refine ⟨b, o, e, ?_, ?_⟩
  · rw [h2 (k * 2) (by omega)]
    have := flat_at ntCells 2 (fun _ => rfl) ns k 0 hk (by decide)
    simpa [ntCells] using this
  · rw [Nat.add_assoc, h2 (k * 2 + 1) (by omega)]
    have := flat_at ntCells 2 (fun _ => rfl) ns k 1 hk (by decide)
    simpa [ntCells] using this

set_option maxRecDepth 100000 in
set_option maxHeartbeats 4000000 in
theorem notes_any (ns : List Nt) (v : Value) (w : World) (ha : NotesAt w v ns) (hla : ns.length ≤ 100000000) :
    Calls Tryd.prog 41 #[v] w fun e w' => e = .returned (.bool (notesOk ns)) ∧ Kept NoB w w' := by
  obtain ⟨ao, cap, rfl, hc⟩ := CellsAt.shape ha
  go_enter Tryd.func41, Tryd.ntmps41
  go_wp2
  go_loopw [3] (fun i wr => ∃ k : Nat, k ≤ ns.length ∧ i = .int .i64 k ∧ (∀ j, j < k → Hid (nOk ns j = true)) ∧ Kept NoB w wr) (fun i _ => ns.length - (intOf i).toNat)
  case atStart => exact ⟨0, by omega, rfl, fun j hj => absurd hj (Nat.not_lt_zero _), Kept.refl _ _⟩
  case round =>
    obtain ⟨k, hka, rfl, heq, hkept⟩ := hrel
    by_cases h1 : k < ns.length
    · obtain ⟨b, o, rfl, hc1, hc2⟩ := notes_at (CellsAt.keptN ha (by decide) hkept) k h1
      rcases note_cases ns[k] with ⟨hb, ht⟩ | ⟨hg, ht1, ht2, ht3⟩
      · have HB := hide (notesOk_false ns k h1 (nOk_bad ns k h1 hb))
        clear hb
        rcases ht with ht | ⟨ht, ht2⟩ | ⟨ht, ht2, ht3⟩
        all_goals
          go_wp2_with fail
          go_ret
          exact ⟨by rw [HB.out]; rfl, hkept⟩
      · by_cases h0 : k = 0
        · have hk0 : decide (0 < k) = false := by simp; omega
          have HN := hide (nOk_zero ns k h1 hg h0)
          clear h0 hg
          go_wp2_with fail
          go_quiet (fail)
          go_wp2
          go_roundw
          case rel => exact ⟨k + 1, by omega, by go_num, upTo heq HN, hkept.drewN nq⟩
          case measure => simp [intOf]; omega
        · obtain ⟨j, rfl⟩ : ∃ j, k = j + 1 := ⟨k - 1, by omega⟩
          obtain ⟨b', o', e', hc3, _⟩ := notes_at (CellsAt.keptN ha (by decide) hkept) j (by omega)
          cases e'
          cases hls : Op.bytesLess ns[j].name.toList ns[j + 1].name.toList with
          | false =>
            have HB := hide (notesOk_false ns (j + 1) h1 (nOk_less ns j h1 hls))
            clear hg
            go_wp2_with fail
            go_quiet (fail)
            go_wp2
            go_ret
            exact ⟨by rw [HB.out]; rfl, hkept.drewN _⟩
          | true =>
            have HN := hide (nOk_succ ns j h1 hg hls)
            clear hg
            go_wp2_with fail
            go_quiet (fail)
            go_wp2
            go_roundw
            case rel => exact ⟨j + 1 + 1, by omega, by go_num, upTo heq HN, hkept.drewN nq⟩
            case measure => simp [intOf]; omega
    · have HZ := hide (notesOk_all ns k (by omega) (fun j hj => (heq j hj).out))
      go_wp2
      go_ret
      refine ⟨?_, hkept⟩
      rw [HZ.out, ← show decide ((ns.length : Int) ≤ 4) = decide (ns.length ≤ 4) from decide_eq_decide.2 (by omega)]
      rfl
end Go.Proofs.YtidioioldlmciaaDoor
