import Derived.Test.YtidioioldlmciaaDoorK
namespace Go.Proofs.YtidioioldlmciaaDoor
open Go.RowKit

def emptyS : ByteArray := ⟨#[]⟩
def noEn : En := ⟨⟨#[]⟩, 0, 0, 0, [], ⟨#[]⟩⟩
def noNt : Nt := ⟨⟨#[]⟩, ⟨#[]⟩⟩
def zEn : List Value := enCells (noEn, .slice none 0 0)
def zNt : List Value := ntCells noNt
def zRow (z : List Value) (n : Nat) : List Value := (List.replicate n z).flatMap id

theorem zRow_succ (z : List Value) (n : Nat) : zRow z (n + 1) = z ++ zRow z n := by simp [zRow, List.replicate_succ]
theorem zRow_len (z : List Value) (n : Nat) : (zRow z n).length = n * z.length := by
  induction n with
  | zero => simp [zRow]
  | succ n ih => rw [zRow_succ, List.length_append, ih, Nat.succ_mul]; omega
theorem zRow_at (z : List Value) (n j : Nat) (_hz : 0 < z.length) (hj : j < n * z.length) : (zRow z n)[j]? = z[j % z.length]? := by
  induction n generalizing j with
  | zero => simp at hj
  | succ n ih =>
    rw [zRow_succ]
    by_cases h : j < z.length
    · rw [List.getElem?_append_left h, Nat.mod_eq_of_lt h]
    · rw [List.getElem?_append_right (by omega), ih (j - z.length) (by rw [Nat.succ_mul] at hj; omega)]
      congr 1
      rw [← Nat.mod_eq_sub_mod (by omega)]
theorem made_row (z : List Value) (hz : 0 < z.length) (n : Nat) : madeCells z.toArray (n * z.length) = (zRow z n).toArray := by
  apply Array.ext'
  simp only [madeCells, List.size_toArray]
  apply List.ext_getElem?
  intro j
  by_cases hj : j < n * z.length
  · rw [zRow_at z n j hz hj]
    have hm : j % z.length < z.length := Nat.mod_lt _ hz
    simp [hj, hm]
  · rw [List.getElem?_eq_none (by simp; omega), List.getElem?_eq_none (by rw [zRow_len]; omega)]

theorem mk22 (n : Nat) (hn : n ≤ 100000000) (u : World) : (Instr.makeSlice 22 (.int .i64 (n : Int)) (.int .i64 (n : Int))).run Tryd.prog u =
      .ok (.slice (some ⟨u.heap.size, 0, none⟩) n n) (u.alloc (.cells (zRow zEn n).toArray 55)) := by
  obtain ⟨i0, hi, hz0, hz1, hz2⟩ := info_parts info55
  have h := run_make (P := Tryd.prog) u 22 55 i0 zeroEn Tryd.underlying22 hi hz0 .i64 .i64 (n : Int) (n : Int) (by omega) (Int.le_refl _) (by rw [hz2]; omega) (by omega)
  rw [hz1] at h
  rw [← made_row zEn (by decide) n]
  rw [Int.toNat_natCast] at h
  exact h
theorem mk53 (n : Nat) (hn : n ≤ 100000000) (u : World) : (Instr.makeSlice 53 (.int .i64 (n : Int)) (.int .i64 (n : Int))).run Tryd.prog u =
      .ok (.slice (some ⟨u.heap.size, 0, none⟩) n n) (u.alloc (.cells (zRow zNt n).toArray 59)) := by
  obtain ⟨i0, hi, hz0, hz1, hz2⟩ := info_parts info59
  have h := run_make (P := Tryd.prog) u 53 59 i0 zeroNt Tryd.underlying53 hi hz0 .i64 .i64 (n : Int) (n : Int) (by omega) (Int.le_refl _) (by rw [hz2]; omega) (by omega)
  rw [hz1] at h
  rw [← made_row zNt (by decide) n]
  rw [Int.toNat_natCast] at h
  exact h

def beyondEn : En := ⟨⟨#[98, 101, 121, 111, 110, 100]⟩, 0, 0, 0, [], ⟨#[]⟩⟩
def bEn : List Value := enCells (beyondEn, .slice none 0 0)
def nSl (e : En) (g : Nat) : Value := .slice (some ⟨g, 0, none⟩) e.notes.length (e.notes.length + 4)
def lentZ (es : List En) (gs : List Nat) : List (En × Value) := es.zipWith (fun e g => (e, nSl e g)) gs
def ntRow (e : En) : List Value := e.notes.flatMap ntCells ++ zRow zNt 4

/-- entries that were lent: their row, and each one's notes, all with spare room -/
structure LentAt (w : World) (g : Nat) (es : List En) (gs : List Nat) : Prop where
  len : gs.length = es.length
  row : w.heap[g]? = some (.cells ((lentZ es gs).flatMap enCells ++ zRow bEn 4).toArray 55 (0, 0))
  nts : ∀ i (h : i < es.length) (h' : i < gs.length), w.heap[gs[i]]? = some (.cells (ntRow es[i]).toArray 59 (0, 0))
  inc : gs.Pairwise (· < ·)
  lo : ∀ x ∈ gs, g < x

theorem enCells_one (e : En) (ao : Option Addr) (n c : Nat) : ∀ u ∈ enCells (e, .slice ao n c), u.oneCell' = true := by
  intro u hu
  simp [enCells] at hu
  rcases hu with rfl | rfl | rfl | rfl | rfl | rfl <;> rfl
theorem ents_one {w : World} {v : Value} {zs : List (En × Value)} (h : EntsAt w v zs) : ∀ u ∈ zs.flatMap enCells, u.oneCell' = true := by
  intro u hu
  obtain ⟨z, hz, hu⟩ := List.mem_flatMap.1 hu
  obtain ⟨ao, c, hv⟩ := notes_len (h.2 z hz)
  obtain ⟨e, v⟩ := z
  simp only at hv
  subst hv
  exact enCells_one e ao _ c u hu
theorem ntCells_one (ns : List Nt) : ∀ u ∈ ns.flatMap ntCells, u.oneCell' = true := by
  intro u hu
  obtain ⟨z, hz, hu⟩ := List.mem_flatMap.1 hu
  simp [ntCells] at hu
  rcases hu with rfl | rfl <;> rfl

theorem src_cells {w : World} {v : Value} {size n : Nat} {xs : List Value} {tx e' : TypeId} (h : CellsAt w v size n xs) (hk : Tryd.prog.underlying tx = some (.slice e')) (h1 : ∀ u ∈ xs, u.oneCell' = true) : Src Tryd.prog size tx v n xs w := by
  obtain ⟨hl, ao, cap, rfl, hc, h2⟩ := h
  cases ao with
  | none =>
    have hn : n = 0 := by
      rcases Nat.eq_zero_or_pos n with h0 | h0
      · exact h0
      · obtain ⟨b, o, he, _⟩ := h2 h0
        cases he
    subst hn
    obtain rfl : xs = [] := List.eq_nil_of_length_eq_zero (by simpa using hl)
    exact Src.ofNil w hk cap
  | some a =>
    refine Src.ofSlice w hk a n cap xs hl (fun j u hj => ?_) h1
    have hj' : j < n * size := by rw [← hl]; exact (List.getElem?_eq_some_iff.1 hj).1
    have h0 : 0 < n := by
      rcases Nat.eq_zero_or_pos n with rfl | h0
      · simp at hj'
      · exact h0
    obtain ⟨b, o, he, h3⟩ := h2 h0
    cases he
    rw [Addr.add_lit, h3 j hj']
    exact hj
theorem zRow_drop (z : List Value) (n m : Nat) : (zRow z (n + m)).drop (n * z.length) = zRow z m := by
  induction n with
  | zero => simp
  | succ n ih =>
    rw [show n + 1 + m = (n + m) + 1 by omega, zRow_succ, Nat.succ_mul, Nat.add_comm, ← List.drop_drop, List.drop_left, ih]

/-- where the first loop of lentTree stands -/
structure LInv (w0 w : World) (zs : List (En × Value)) (k : Nat) (gs : List Nat) : Prop where
  len : gs.length = k
  row : w.heap[w0.heap.size]? = some (.cells ((lentZ ((zs.take k).map (·.1)) gs).flatMap enCells ++ ((zs.drop k).flatMap enCells ++ zRow zEn 4)).toArray 55 (0, 0))
  nts : ∀ i (h : i < zs.length) (h' : i < gs.length), w.heap[gs[i]]? = some (.cells (ntRow zs[i].1).toArray 59 (0, 0))
  inc : gs.Pairwise (· < ·)
  lo : ∀ x ∈ gs, w0.heap.size < x ∧ x < w.heap.size
  kept : Kept NoB w0 w

theorem lent_kept {wr w2 : World} {o : Obj} (h : (wr.alloc o).grownBy w2 (some wr.heap.size)) : Kept NoB wr w2 :=
  ((Kept.refl NoB wr).alloc o).grown h (fun k hk hlt => by cases hk; exact absurd hlt (Nat.lt_irrefl _))
theorem lentZ_len (es : List En) (gs : List Nat) (h : gs.length = es.length) : (lentZ es gs).length = es.length := by simp [lentZ, h]
theorem LInv.rowAt {w0 w : World} {zs : List (En × Value)} {k : Nat} {gs : List Nat} (h : LInv w0 w zs k gs) (hk : k ≤ zs.length) : ((lentZ ((zs.take k).map (·.1)) gs).flatMap enCells).length = k * 6 := by
  rw [flat_len enCells 6 (fun _ => rfl), lentZ_len _ _ (by rw [h.len]; simp; omega)]
  simp; omega
theorem LInv.cell4 {w0 w w2 : World} {zs : List (En × Value)} {k : Nat} {gs : List Nat} (h : LInv w0 w zs k gs) (hk : k < zs.length) {v : Value} (hv : zs[k].2 = v) (hkk : Kept NoB w w2) :
    w2.cell? ⟨w0.heap.size, k * 6 + 4, none⟩ = some v ∧ w2.frozen? ⟨w0.heap.size, k * 6 + 4, none⟩ = false := by
  have hr := hkk.heapN h.row
  refine ⟨?_, frozen_of_row _ _ _ _ _ hr⟩
  rw [cell_of_row _ _ _ _ _ _ hr]
  simp only [List.getElem?_toArray]
  rw [List.getElem?_append_right (by rw [h.rowAt (by omega)]; omega), h.rowAt (by omega), List.drop_eq_getElem_cons hk, List.flatMap_cons]
  rw [show k * 6 + 4 - k * 6 = 4 by omega, List.append_assoc, List.getElem?_append_left (by simp [enCells])]
  simp [enCells, hv]
theorem enCells_set4 (e : En) (v v' : Value) (rest : List Value) : (enCells (e, v) ++ rest).set 4 v' = enCells (e, v') ++ rest := rfl
theorem lentZ_snoc (es : List En) (gs : List Nat) (e : En) (g : Nat) (h : gs.length = es.length) : lentZ (es ++ [e]) (gs ++ [g]) = lentZ es gs ++ [(e, nSl e g)] := by
  unfold lentZ
  rw [List.zipWith_append h.symm]
  rfl
theorem LInv.step {w0 w w2 : World} {zs : List (En × Value)} {k : Nat} {gs : List Nat} (h : LInv w0 w zs k gs) (hk : k < zs.length) (hn : w2.heap[w.heap.size]? = some (.cells (ntRow zs[k].1).toArray 59 (0, 0))) (hkk : Kept NoB w w2) (hlt : w.heap.size < w2.heap.size) :
    LInv w0 (w2.setCell ⟨w0.heap.size, k * 6 + 4, none⟩ (nSl zs[k].1 w.heap.size)) zs (k + 1) (gs ++ [w.heap.size]) := by
  have hr := hkk.heapN h.row
  have hB : Kept (At w0.heap.size) w2 (w2.setCell ⟨w0.heap.size, k * 6 + 4, none⟩ (nSl zs[k].1 w.heap.size)) := (Kept.refl (At w0.heap.size) w2).setCell ⟨w0.heap.size, k * 6 + 4, none⟩ (fun _ => rfl) _
  have hw0 : w0.heap.size < w.heap.size := (Array.getElem?_eq_some_iff.1 h.row).1
  refine ⟨by simp [h.len], ?_, ?_, ?_, ?_, ?_⟩
  · rw [heap_setCell_same _ _ _ _ _ _ hr]
    congr 2
    simp only [List.setIfInBounds_toArray]
    congr 1
    rw [List.set_append_right _ _ (by rw [h.rowAt (by omega)]; omega), h.rowAt (by omega), show k * 6 + 4 - k * 6 = 4 by omega]
    rw [List.drop_eq_getElem_cons hk, List.flatMap_cons, List.append_assoc]
    rw [show enCells zs[k] = enCells (zs[k].1, zs[k].2) from rfl, enCells_set4]
    rw [List.take_succ_eq_append_getElem hk, List.map_append, List.map_cons, List.map_nil, lentZ_snoc _ _ _ _ (by rw [h.len]; simp; omega)]
    simp only [List.flatMap_append, List.flatMap_cons, List.flatMap_nil, List.append_nil, List.append_assoc]
  · intro i hi hi'
    have hne : (gs ++ [w.heap.size])[i] ≠ w0.heap.size := by
      have hm := List.getElem_mem hi'
      rcases List.mem_append.1 hm with hm | hm
      · have := (h.lo _ hm).1; omega
      · have := List.mem_singleton.1 hm; omega
    rw [hB.block _ ?_ (fun x => hne x)]
    · by_cases hik : i < gs.length
      · rw [List.getElem_append_left hik]
        exact hkk.heapN (h.nts i hi hik)
      · obtain rfl : i = gs.length := by simp at hi'; omega
        have e2 : (gs ++ [w.heap.size])[gs.length] = w.heap.size := by simp
        have e3 : gs.length = k := h.len
        rw [e2, hn]
        have e4 : ∀ m (hm : m < zs.length), m = k → zs[k].1 = zs[m].1 := by intro m hm h; subst h; rfl
        rw [e4 gs.length hi e3]
    · have hm := List.getElem_mem hi'
      rcases List.mem_append.1 hm with hm | hm
      · have := (h.lo _ hm).2; have := hkk.size; omega
      · have := List.mem_singleton.1 hm; omega
  · rw [List.pairwise_append]
    refine ⟨h.inc, List.pairwise_singleton _ _, fun a ha b hb => ?_⟩
    rw [List.mem_singleton.1 hb]
    exact (h.lo a ha).2
  · intro x hx
    have hs : (w2.setCell ⟨w0.heap.size, k * 6 + 4, none⟩ (nSl zs[k].1 w.heap.size)).heap.size = w2.heap.size := size_setCell' _ _ _
    rw [hs]
    rcases List.mem_append.1 hx with hx | hx
    · have := h.lo x hx; omega
    · rw [List.mem_singleton.1 hx]; exact ⟨hw0, hlt⟩
  · exact (h.kept.trans hkk).trans' hB (fun i hi x => absurd (show i = w0.heap.size from x) (by omega))

/-- where the second loop of lentTree stands -/
structure LInv2 (w0 w : World) (es : List En) (gs : List Nat) (m : Nat) : Prop where
  len : gs.length = es.length
  row : w.heap[w0.heap.size]? = some (.cells ((lentZ es gs).flatMap enCells ++ (zRow bEn m ++ zRow zEn (4 - m))).toArray 55 (0, 0))
  nts : ∀ i (h : i < es.length) (h' : i < gs.length), w.heap[gs[i]]? = some (.cells (ntRow es[i]).toArray 59 (0, 0))
  inc : gs.Pairwise (· < ·)
  lo : ∀ x ∈ gs, w0.heap.size < x
  kept : Kept NoB w0 w
theorem LInv.second {w0 w : World} {zs : List (En × Value)} {gs : List Nat} (h : LInv w0 w zs zs.length gs) : LInv2 w0 w (zs.map (·.1)) gs 0 := by
  refine ⟨by rw [h.len]; simp, ?_, fun i hi hi' => ?_, h.inc, fun x hx => (h.lo x hx).1, h.kept⟩
  · have := h.row
    rw [List.take_length, List.drop_length] at this
    rw [show zRow bEn 0 = [] from rfl, List.nil_append]
    simpa using this
  · have := h.nts i (by simpa using hi) hi'
    simpa using this
theorem LInv2.rowLen {w0 w : World} {es : List En} {gs : List Nat} {m : Nat} (h : LInv2 w0 w es gs m) : ((lentZ es gs).flatMap enCells).length = es.length * 6 := by
  rw [flat_len enCells 6 (fun _ => rfl), lentZ_len _ _ h.len]
theorem LInv2.cell0 {w0 w : World} {es : List En} {gs : List Nat} {m : Nat} (h : LInv2 w0 w es gs m) (hm : m < 4) :
    w.cell? ⟨w0.heap.size, (es.length + m) * 6, none⟩ = some (.string ⟨#[]⟩) ∧ w.frozen? ⟨w0.heap.size, (es.length + m) * 6, none⟩ = false := by
  refine ⟨?_, frozen_of_row _ _ _ _ _ h.row⟩
  rw [cell_of_row _ _ _ _ _ _ h.row]
  simp only [List.getElem?_toArray]
  have hb : (zRow bEn m).length = m * 6 := zRow_len bEn m
  rw [List.getElem?_append_right (by rw [h.rowLen]; omega), h.rowLen, List.getElem?_append_right (by rw [hb]; omega), hb]
  rw [show (es.length + m) * 6 - es.length * 6 - m * 6 = 0 by omega, show 4 - m = (3 - m) + 1 by omega, zRow_succ]
  rfl
theorem zRow_snoc (z : List Value) (n : Nat) : zRow z (n + 1) = zRow z n ++ z := by
  simp [zRow, List.replicate_succ']
theorem LInv2.step {w0 w : World} {es : List En} {gs : List Nat} {m : Nat} (h : LInv2 w0 w es gs m) (hm : m < 4) :
    LInv2 w0 (w.setCell ⟨w0.heap.size, (es.length + m) * 6, none⟩ (.string ⟨#[98, 101, 121, 111, 110, 100]⟩)) es gs (m + 1) := by
  have hB : Kept (At w0.heap.size) w (w.setCell ⟨w0.heap.size, (es.length + m) * 6, none⟩ (.string ⟨#[98, 101, 121, 111, 110, 100]⟩)) := (Kept.refl (At w0.heap.size) w).setCell ⟨w0.heap.size, (es.length + m) * 6, none⟩ (fun _ => rfl) _
  have hb : (zRow bEn m).length = m * 6 := zRow_len bEn m
  refine ⟨h.len, ?_, fun i hi hi' => ?_, h.inc, h.lo, ?_⟩
  · rw [heap_setCell_same _ _ _ _ _ _ h.row]
    congr 2
    simp only [List.setIfInBounds_toArray]
    congr 1
    rw [List.set_append_right _ _ (by rw [h.rowLen]; omega), h.rowLen, List.set_append_right _ _ (by rw [hb]; omega), hb]
    rw [show (es.length + m) * 6 - es.length * 6 - m * 6 = 0 by omega, show 4 - m = (4 - (m + 1)) + 1 by omega, zRow_succ, zRow_snoc, List.append_assoc]
    rfl
  · have hx := h.nts i hi hi'
    refine hB.heap hx (fun x => ?_)
    have := h.lo _ (List.getElem_mem hi')
    exact absurd (show gs[i] = w0.heap.size from x) (by omega)
  · exact h.kept.trans' hB (fun i hi x => absurd (show i = w0.heap.size from x) (by omega))
theorem LInv2.lent {w0 w : World} {es : List En} {gs : List Nat} (h : LInv2 w0 w es gs 4) : LentAt w w0.heap.size es gs := by
  refine ⟨h.len, ?_, h.nts, h.inc, h.lo⟩
  have := h.row
  simpa [zRow] using this

set_option maxRecDepth 100000 in
set_option maxHeartbeats 8000000 in
theorem lentTree_any (zs : List (En × Value)) (vl : Value) (w : World) (ha : EntsAt w vl zs) (hla : zs.length ≤ 2000000) (hn : ∀ z ∈ zs, z.1.notes.length ≤ 2000000) :
    Calls Tryd.prog 5 #[vl] w fun e w' => ∃ gs, e = .returned (.slice (some ⟨w.heap.size, 0, none⟩) zs.length (zs.length + 4)) ∧ Kept NoB w w' ∧ LentAt w' w.heap.size (zs.map (·.1)) gs := by
  have hmk := fun u => mk22 (zs.length + 4) (by omega) u
  have ec : ((zs.length + 4 : Nat) : Int) = (zs.length : Int) + 4 := by omega
  rw [ec] at hmk
  clear ec
  obtain ⟨ao, cap, rfl⟩ := ents_shape ha
  obtain ⟨X, hX⟩ : ∃ X, X = zs.flatMap enCells := ⟨_, rfl⟩
  have hXl : X.length = zs.length * 6 := by rw [hX]; exact flat_len enCells 6 (fun _ => rfl) zs
  have hsrc : Src Tryd.prog 6 22 (.slice ao zs.length cap) zs.length X (w.alloc (.cells (zRow zEn (zs.length + 4)).toArray 55)) := by
    rw [hX]; exact src_cells (ha.1.keptN (by decide) ((Kept.refl NoB w).alloc _)) Tryd.underlying22 (ents_one ha)
  have HSRC := hide hsrc
  have hfit : X.length ≤ (zRow zEn (zs.length + 4)).length := by rw [hXl, zRow_len]; exact Nat.mul_le_mul_right 6 (by omega)
  have HX := hide hX
  have HXL := hide hXl
  have HFIT := hide hfit
  have HA := hide ha
  have HN := hide hn
  clear ha hX hXl hsrc hfit hn
  go_enter Tryd.func5, Tryd.ntmps5
  go_wp2_with ((refine wpList_copy2 _ rfl (.tmp 11) (.tmp 12) 22 22 rfl 55 zeroEn 6 80 Tryd.underlying22 info55 w.heap.size (zs.length + 4) (zs.length + 4) (zRow zEn (zs.length + 4)) 55 rfl (heap_alloc_new w _) _ zs.length X rfl HSRC.out (by omega) HFIT.out ?_; intro w1 hg1 hk1))
  go_loopw [4] (fun i wr => ∃ (k : Nat) (gs : List Nat), k ≤ zs.length ∧ i = .int .i64 k ∧ LInv w wr zs k gs) (fun i _ => zs.length - (intOf i).toNat)
  case atStart =>
    refine ⟨0, [], by omega, rfl, rfl, ?_, fun i _ h => absurd h (Nat.not_lt_zero _), List.Pairwise.nil, fun x hx => (by cases hx), ?_⟩
    · rw [hg1.out, HXL.out]
      have := zRow_drop zEn zs.length 4
      rw [show zs.length * 6 = zs.length * zEn.length from rfl, this, HX.out]
      rfl
    · exact ((Kept.refl NoB w).alloc _).grown hk1 (fun k hk hlt => by cases hk; exact absurd hlt (Nat.lt_irrefl _))
  case round =>
    obtain ⟨k, gs, hk, rfl, hL⟩ := hrel
    by_cases hlt : k < zs.length
    · obtain ⟨b, o, rfl, hcell⟩ := ents_at (HA.out.keptN hL.kept) k hlt
      have c4 := hcell 4 (by decide)
      simp only [enCells] at c4
      have hnt := (HA.out.keptN hL.kept).2 zs[k] (List.getElem_mem hlt)
      obtain ⟨nao, ncap, hnv⟩ := notes_len hnt
      rw [hnv] at hnt
      simp [hnv] at c4
      have hnl := HN.out zs[k] (List.getElem_mem hlt)
      have hmk3 := fun u => mk53 (zs[k].1.notes.length + 4) (by omega) u
      have ec : ((zs[k].1.notes.length + 4 : Nat) : Int) = (zs[k].1.notes.length : Int) + 4 := by omega
      rw [ec] at hmk3
      clear ec hcell
      have HL := hide hL
      have HNT := hide hnt
      have HNV := hide hnv
      clear hL hnt hnv
      have c4a := fun o => ((Kept.refl NoB wr).alloc o).cellN c4
      obtain ⟨Y, hY⟩ : ∃ Y, Y = zs[k].1.notes.flatMap ntCells := ⟨_, rfl⟩
      have hYl : Y.length = zs[k].1.notes.length * 2 := by rw [hY]; exact flat_len ntCells 2 (fun _ => rfl) _
      have HSRC2 : Hid (Src Tryd.prog 2 53 (.slice nao zs[k].1.notes.length ncap) zs[k].1.notes.length Y (wr.alloc (.cells (zRow zNt (zs[k].1.notes.length + 4)).toArray 59))) := by
        unfold Hid
        rw [hY]; exact src_cells (CellsAt.keptN HNT.out (by decide) ((Kept.refl NoB wr).alloc _)) Tryd.underlying53 (ntCells_one _)
      have HFIT2 : Hid (Y.length ≤ (zRow zNt (zs[k].1.notes.length + 4)).length) := by unfold Hid; rw [hYl, zRow_len]; exact Nat.mul_le_mul_right 2 (by omega)
      have HY := hide hY
      have HYL := hide hYl
      clear hY hYl
      go_wp2_with ((refine wpList_copy2 _ rfl (.tmp 28) (.tmp 33) 53 53 rfl 59 zeroNt 2 32 Tryd.underlying53 info59 wr.heap.size (zs[k].1.notes.length + 4) (zs[k].1.notes.length + 4) (zRow zNt (zs[k].1.notes.length + 4)) 59 rfl (heap_alloc_new wr _) _ zs[k].1.notes.length Y rfl HSRC2.out (by omega) HFIT2.out ?_; intro w2 hg2 hk2; have c4b := (lent_kept hk2).cellN c4; obtain ⟨r4, f4⟩ := HL.out.cell4 hlt HNV.out (lent_kept hk2)))
      go_roundw
      case rel =>
        refine ⟨k + 1, gs ++ [wr.heap.size], by omega, by go_num, HL.out.step hlt ?_ (lent_kept hk2) (by have := hk2.size; simp at this; omega)⟩
        rw [hg2.out, HYL.out, show zs[k].1.notes.length * 2 = zs[k].1.notes.length * zNt.length from rfl, zRow_drop, HY.out]
        rfl
      case measure => simp [intOf]; omega
    · obtain rfl : k = zs.length := by omega
      have hL2 := hL.second
      clear hL
      go_wp2_with fail
      go_loopw [6] (fun i w2 => ∃ m : Nat, m ≤ 4 ∧ i = .int .i64 ((zs.length + m : Nat) : Int) ∧ LInv2 w w2 (zs.map (·.1)) gs m) (fun i _ => zs.length + 4 - (intOf i).toNat)
      case atStart => exact ⟨0, by omega, by go_num, hL2⟩
      case round =>
        obtain ⟨m, hm, rfl, hI⟩ := hrel
        rename World => w2
        by_cases hlt2 : m < 4
        · obtain ⟨d0, df⟩ := hI.cell0 hlt2
          simp only [List.length_map] at d0 df
          have HI := hide hI
          clear hI
          go_wp2_with fail
          go_roundw
          case rel => exact ⟨m + 1, by omega, by go_num, by have := HI.out.step hlt2; simpa using this⟩
          case measure => simp [intOf]; omega
        · obtain rfl : m = 4 := by omega
          have HI := hide hI
          clear hI
          go_wp2_with fail
          go_ret
          exact ⟨gs, rfl, HI.out.kept, HI.out.lent⟩
end Go.Proofs.YtidioioldlmciaaDoor
