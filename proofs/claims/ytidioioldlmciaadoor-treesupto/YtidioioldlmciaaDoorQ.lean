import Derived.Test.YtidioioldlmciaaDoorO
namespace Go.Proofs.YtidioioldlmciaaDoor
open Go.RowKit

theorem BookAt.pushN {w : World} {B ob : Nat} {vb vt vn vv' : Value} {lb lt ln : List Value} {v x y z : Value} {q n : Nat} {w' : World} (h : BookAt w B ob vb vt vn lb lt ln) (hq : ln.length = 4 * q)
    (hv : Marks w B 59 (nz (4 * q)) v n) (hx : Marks w B 59 (nz (4 * q)) x (n + 1)) (hy : Marks w B 59 (nz (4 * q)) y (n + 2)) (hz : Marks w B 59 (nz (4 * q)) z (n + 3)) {o : Obj}
    (hown : w'.ownsRow B 53 1 vv' (ln.length + 4) (ln ++ [v, x, y, z])) (hg : (w.alloc o).grownBy w' vn.ownBlock) :
    BookAt (w'.setCell ⟨ob, 3, none⟩ vv') B ob vb vt vv' lb lt (ln ++ [v, x, y, z]) ∧ Kept (fun k => vn.ownBlock = some k ∨ k = ob) w (w'.setCell ⟨ob, 3, none⟩ vv') := by
  have hk : Kept (fun k => vn.ownBlock = some k) w w' := ((Kept.refl _ w).alloc o).grown hg (fun k hk _ => hk)
  have hk2 : Kept (At ob) w' (w'.setCell ⟨ob, 3, none⟩ vv') := (Kept.refl (At ob) w').setCell ⟨ob, 3, none⟩ (fun _ => rfl) _
  have hne : ∀ k, vn.ownBlock = some k → ¬ At ob k := owns_ne h.ownn h.blk (by decide)
  have hb' := hk.heap h.blk (fun x => hne ob x rfl)
  have hbl : ∀ {e : TypeId} {sz : Nat} {u : Value} {m : Nat} {xs : List Value}, w.ownsRow B e sz u m xs → e ≠ 53 → e ≠ 29 → (w'.setCell ⟨ob, 3, none⟩ vv').ownsRow B e sz u m xs := by
    intro e sz u m xs ho he he2
    have h1 := hk.owns ho (fun k hk' hx => by
      obtain ⟨c, hc⟩ := owns_block ho hk'
      exact owns_ne h.ownn hc (fun e' => he e'.symm) k hx rfl)
    exact hk2.owns h1 (owns_ne h1 hb' he2)
  have hnew : (w'.setCell ⟨ob, 3, none⟩ vv').ownsRow B 53 1 vv' (ln ++ [v, x, y, z]).length (ln ++ [v, x, y, z]) := by
    have := hk2.owns hown (owns_ne hown hb' (by decide))
    simpa using this
  have hblk : (w'.setCell ⟨ob, 3, none⟩ vv').heap[ob]? = some (.cells #[vb, .slice none 0 0, vt, vv'] 29 (0, 0)) := by
    rw [heap_setCell_same _ _ _ _ _ _ hb']; rfl
  have hls : ∀ i (hi : i < (ln ++ [v, x, y, z]).length), ∃ m, Marks (w'.setCell ⟨ob, 3, none⟩ vv') B 59 (nz i) (ln ++ [v, x, y, z])[i] m := by
    intro i hi
    by_cases h1 : i < ln.length
    · rw [List.getElem_append_left h1]
      obtain ⟨m, hm⟩ := h.ns i h1
      exact ⟨m, hbl hm (by decide) (by decide)⟩
    · obtain ⟨j, rfl⟩ : ∃ j, i = ln.length + j := ⟨i - ln.length, by omega⟩
      have hj : j < 4 := by simp at hi; omega
      have hbz : nz (ln.length + j) = nz (4 * q) := by
        unfold nz markS
        rw [hq, show (4 * q + j) / 4 = 4 * q / 4 by omega]
      rw [List.getElem_append_right (by omega), hbz]
      have : j = 0 ∨ j = 1 ∨ j = 2 ∨ j = 3 := by omega
      simp only [Nat.add_sub_cancel_left]
      rcases this with rfl | rfl | rfl | rfl
      · exact ⟨n, hbl hv (by decide) (by decide)⟩
      · exact ⟨n + 1, hbl hx (by decide) (by decide)⟩
      · exact ⟨n + 2, hbl hy (by decide) (by decide)⟩
      · exact ⟨n + 3, hbl hz (by decide) (by decide)⟩
  refine ⟨⟨hblk, h.lo, hbl h.ownb (by decide) (by decide), hbl h.ownt (by decide) (by decide), hnew, fun i hi => let ⟨m, hm⟩ := h.bs i hi; ⟨m, hbl hm (by decide) (by decide)⟩, fun i hi => let ⟨m, hm⟩ := h.ts i hi; ⟨m, hbl hm (by decide) (by decide)⟩, hls⟩, ?_⟩
  exact (hk.mono (fun i _ hi => .inl hi)).trans' hk2 (fun i _ hi => .inr hi)
theorem BookAt.blkN {w w1 : World} {B ob : Nat} {vb vt vn : Value} {lb lt ln : List Value} {o : Obj} (h : BookAt w B ob vb vt vn lb lt ln) (hg : (w.alloc o).grownBy w1 vn.ownBlock) : w1.heap[ob]? = some (.cells #[vb, .slice none 0 0, vt, vn] 29 (0, 0)) := by
  have hk0 : Kept (fun k => vn.ownBlock = some k) w w1 := ((Kept.refl _ w).alloc o).grown hg (fun k hk _ => hk)
  exact hk0.heap h.blk (fun x => owns_ne h.ownn h.blk (by decide) ob x rfl)
theorem BookAt.cellN {w : World} {B ob : Nat} {vb vt vn : Value} {lb lt ln : List Value} (h : BookAt w B ob vb vt vn lb lt ln) : w.cell? ⟨ob, 3, none⟩ = some vn := by rw [cell_of_row _ _ _ _ _ _ h.blk]; rfl
theorem BookAt.grewN {w w' : World} {B ob : Nat} {vb vt vn : Value} {lb lt ln : List Value} {z : List Value} {v : Value} {n : Nat} {o : Obj} (h : BookAt w B ob vb vt vn lb lt ln) (hv : Marks w B 59 z v n) (hfr : ∀ i (hi : i < ln.length), ∀ k, ln[i].ownBlock = some k → v.ownBlock ≠ some k)
    (hg : (w.alloc o).grownBy w' v.ownBlock) : BookAt w' B ob vb vt vn lb lt ln ∧ Kept (OwnB v) w w' := by
  have hk : Kept (OwnB v) w w' := ((Kept.refl _ w).alloc o).grown hg (fun k hk _ => hk)
  refine ⟨?_, hk⟩
  exact h.keepT hk (t := 59) (fun k hk' => owns_block hv hk') (by decide) (fun e => by cases e) (fun e => by cases e) (fun _ i hi k hk' hx => hfr i hi k hk' hx)

theorem BookAt.pushT {w : World} {B ob : Nat} {vb vt vn vv' : Value} {lb lt ln : List Value} {v x y z : Value} {q n : Nat} {w' : World} (h : BookAt w B ob vb vt vn lb lt ln) (hq : lt.length = 4 * q)
    (hv : Marks w B 55 (tz (4 * q)) v n) (hx : Marks w B 55 (tz (4 * q)) x (n + 1)) (hy : Marks w B 55 (tz (4 * q)) y (n + 2)) (hz : Marks w B 55 (tz (4 * q)) z (n + 3)) {o : Obj}
    (hown : w'.ownsRow B 22 1 vv' (lt.length + 4) (lt ++ [v, x, y, z])) (hg : (w.alloc o).grownBy w' vt.ownBlock) :
    BookAt (w'.setCell ⟨ob, 2, none⟩ vv') B ob vb vv' vn lb (lt ++ [v, x, y, z]) ln ∧ Kept (fun k => vt.ownBlock = some k ∨ k = ob) w (w'.setCell ⟨ob, 2, none⟩ vv') := by
  have hk : Kept (fun k => vt.ownBlock = some k) w w' := ((Kept.refl _ w).alloc o).grown hg (fun k hk _ => hk)
  have hk2 : Kept (At ob) w' (w'.setCell ⟨ob, 2, none⟩ vv') := (Kept.refl (At ob) w').setCell ⟨ob, 2, none⟩ (fun _ => rfl) _
  have hne : ∀ k, vt.ownBlock = some k → ¬ At ob k := owns_ne h.ownt h.blk (by decide)
  have hb' := hk.heap h.blk (fun x => hne ob x rfl)
  have hbl : ∀ {e : TypeId} {sz : Nat} {u : Value} {m : Nat} {xs : List Value}, w.ownsRow B e sz u m xs → e ≠ 22 → e ≠ 29 → (w'.setCell ⟨ob, 2, none⟩ vv').ownsRow B e sz u m xs := by
    intro e sz u m xs ho he he2
    have h1 := hk.owns ho (fun k hk' hx => by
      obtain ⟨c, hc⟩ := owns_block ho hk'
      exact owns_ne h.ownt hc (fun e' => he e'.symm) k hx rfl)
    exact hk2.owns h1 (owns_ne h1 hb' he2)
  have hnew : (w'.setCell ⟨ob, 2, none⟩ vv').ownsRow B 22 1 vv' (lt ++ [v, x, y, z]).length (lt ++ [v, x, y, z]) := by
    have := hk2.owns hown (owns_ne hown hb' (by decide))
    simpa using this
  have hblk : (w'.setCell ⟨ob, 2, none⟩ vv').heap[ob]? = some (.cells #[vb, .slice none 0 0, vv', vn] 29 (0, 0)) := by
    rw [heap_setCell_same _ _ _ _ _ _ hb']; rfl
  have hls : ∀ i (hi : i < (lt ++ [v, x, y, z]).length), ∃ m, Marks (w'.setCell ⟨ob, 2, none⟩ vv') B 55 (tz i) (lt ++ [v, x, y, z])[i] m := by
    intro i hi
    by_cases h1 : i < lt.length
    · rw [List.getElem_append_left h1]
      obtain ⟨m, hm⟩ := h.ts i h1
      exact ⟨m, hbl hm (by decide) (by decide)⟩
    · obtain ⟨j, rfl⟩ : ∃ j, i = lt.length + j := ⟨i - lt.length, by omega⟩
      have hj : j < 4 := by simp at hi; omega
      have hbz : tz (lt.length + j) = tz (4 * q) := by
        unfold tz markS
        rw [hq, show (4 * q + j) / 4 = 4 * q / 4 by omega]
      rw [List.getElem_append_right (by omega), hbz]
      have : j = 0 ∨ j = 1 ∨ j = 2 ∨ j = 3 := by omega
      simp only [Nat.add_sub_cancel_left]
      rcases this with rfl | rfl | rfl | rfl
      · exact ⟨n, hbl hv (by decide) (by decide)⟩
      · exact ⟨n + 1, hbl hx (by decide) (by decide)⟩
      · exact ⟨n + 2, hbl hy (by decide) (by decide)⟩
      · exact ⟨n + 3, hbl hz (by decide) (by decide)⟩
  refine ⟨⟨hblk, h.lo, hbl h.ownb (by decide) (by decide), hnew, hbl h.ownn (by decide) (by decide), fun i hi => let ⟨m, hm⟩ := h.bs i hi; ⟨m, hbl hm (by decide) (by decide)⟩, hls, fun i hi => let ⟨m, hm⟩ := h.ns i hi; ⟨m, hbl hm (by decide) (by decide)⟩⟩, ?_⟩
  exact (hk.mono (fun i _ hi => .inl hi)).trans' hk2 (fun i _ hi => .inr hi)
theorem BookAt.blkT {w w1 : World} {B ob : Nat} {vb vt vn : Value} {lb lt ln : List Value} {o : Obj} (h : BookAt w B ob vb vt vn lb lt ln) (hg : (w.alloc o).grownBy w1 vt.ownBlock) : w1.heap[ob]? = some (.cells #[vb, .slice none 0 0, vt, vn] 29 (0, 0)) := by
  have hk0 : Kept (fun k => vt.ownBlock = some k) w w1 := ((Kept.refl _ w).alloc o).grown hg (fun k hk _ => hk)
  exact hk0.heap h.blk (fun x => owns_ne h.ownt h.blk (by decide) ob x rfl)
theorem BookAt.cellT {w : World} {B ob : Nat} {vb vt vn : Value} {lb lt ln : List Value} (h : BookAt w B ob vb vt vn lb lt ln) : w.cell? ⟨ob, 2, none⟩ = some vt := by rw [cell_of_row _ _ _ _ _ _ h.blk]; rfl
theorem BookAt.grewT {w w' : World} {B ob : Nat} {vb vt vn : Value} {lb lt ln : List Value} {z : List Value} {v : Value} {n : Nat} {o : Obj} (h : BookAt w B ob vb vt vn lb lt ln) (hv : Marks w B 55 z v n) (hfr : ∀ i (hi : i < lt.length), ∀ k, lt[i].ownBlock = some k → v.ownBlock ≠ some k)
    (hg : (w.alloc o).grownBy w' v.ownBlock) : BookAt w' B ob vb vt vn lb lt ln ∧ Kept (OwnB v) w w' := by
  have hk : Kept (OwnB v) w w' := ((Kept.refl _ w).alloc o).grown hg (fun k hk _ => hk)
  refine ⟨?_, hk⟩
  exact h.keepT hk (t := 55) (fun k hk' => owns_block hv hk') (by decide) (fun e => by cases e) (fun _ i hi k hk' hx => hfr i hi k hk' hx) (fun e => by cases e)

theorem over_two (a b : Value) (xs : List Value) (k : Nat) (hk : (k + 1) * 2 ≤ xs.length) : ((zRow [a, b] k ++ xs.drop (k * 2)).set (k * 2) a).set (k * 2 + 1) b = zRow [a, b] (k + 1) ++ xs.drop ((k + 1) * 2) := by
  have hl : (zRow [a, b] k).length = k * 2 := by rw [zRow_len]; rfl
  rw [List.drop_eq_getElem_cons (show k * 2 < xs.length by omega), List.drop_eq_getElem_cons (show k * 2 + 1 < xs.length by omega), set_two _ _ _ _ a b _ hl, zRow_snoc, List.append_assoc, show (k + 1) * 2 = k * 2 + 1 + 1 by omega]
  rfl
theorem zRow_str (a : ByteArray) (m : Nat) : ∀ u ∈ zRow [Value.string a, .string ⟨#[]⟩] m, u.oneCell' = true := by
  intro u hu
  simp [zRow] at hu
  obtain ⟨l, ⟨_, rfl⟩, hu⟩ := hu
  simp at hu
  rcases hu with rfl | rfl <;> rfl
def NSet (v vn : Value) (ob : Nat) : Nat → Prop := fun k => v.ownBlock = some k ∨ vn.ownBlock = some k ∨ k = ob

set_option maxRecDepth 100000 in
set_option maxHeartbeats 16000000 in
theorem takeNotes_any (B ob : Nat) (vb vt vn : Value) (lb lt ln : List Value) (q : Nat) (v : Value) (n : Nat) (xs : List Value) (w : World) (h : BookAt w B ob vb vt vn lb lt ln) (hq : ln.length = 4 * q) (hq2 : q ≤ 900000)
    (hv : w.ownsRow B 59 2 v n xs) (hxo : ∀ k, k < n → (∃ y, xs[k * 2]? = some (.string y)) ∧ ∃ y, xs[k * 2 + 1]? = some (.string y)) (hfr : ∀ i (hi : i < ln.length), ∀ k, ln[i].ownBlock = some k → v.ownBlock ≠ some k) (hn : n ≤ 1000000) :
    Calls Tryd.prog 25 #[.pointer (some ⟨ob, 0, none⟩), v] w fun e w' => e = .returned (.tuple #[]) ∧ ∃ vn' x y z, BookAt w' B ob vb vt vn' lb lt (ln ++ [v, x, y, z]) ∧ Kept (NSet v vn ob) w w' ∧
      ∀ u ∈ [v, x, y, z], ∀ k, u.ownBlock = some k → v.ownBlock = some k ∨ w.heap.size ≤ k := by
  obtain ⟨ao, cap, rfl⟩ := owns_shape hv
  obtain ⟨nao, ncap, rfl⟩ := owns_shape h.ownn
  have hxl : xs.length = n * 2 := hv.1
  have c0 := h.cellN
  rw [hq] at c0
  have H := hide h
  have HQ := hide hq
  have HV := hide hv
  have HXO := hide hxo
  have HFR := hide hfr
  have HXL := hide hxl
  have hcm := marked_any (q + 1) w (by omega)
  rw [show ((q + 1 : Nat) : Int) = (q : Int) + 1 by omega] at hcm
  have HCM := hide hcm
  clear h hq hv hxo hfr hxl hcm
  go_enter Tryd.func25, Tryd.ntmps25
  go_wp2_with fail
  refine HCM.out.mono ?_
  rintro r wm ⟨rfl, hkm⟩
  obtain ⟨MK, hMK⟩ : ∃ MK : ByteArray, MK = ⟨(markL (q + 1)).toArray⟩ := ⟨_, rfl⟩
  rw [← hMK]
  have HZ : Hid (nz (4 * q) = [.string MK, .string ⟨#[]⟩]) := by
    unfold Hid nz markS
    rw [hMK, show 4 * q / 4 = q by omega]
    rfl
  clear hMK
  have HKM := hide hkm
  clear hkm
  go_wp2_with fail
  generalize hW1 : wm.alloc (.cells #[.string MK, .string ⟨#[]⟩] 59) = W1
  have HK0 : Hid (Kept NoB w W1) := by unfold Hid; rw [← hW1]; exact HKM.out.alloc _
  have hmb : w.heap.size ≤ wm.heap.size := HKM.out.size
  have HMB : Hid (W1.heap[wm.heap.size]? = some (.cells #[.string MK, .string ⟨#[]⟩] 59 (0, 0))) := by unfold Hid; rw [← hW1]; exact heap_alloc_new wm _
  clear hW1
  generalize wm.heap.size = mb at *
  have MC : Hid (∀ wx, Kept (OwnB (.slice ao n cap)) W1 wx → wx.cell? ⟨mb, 0, none⟩ = some (.string MK) ∧ wx.cell? ⟨mb, 1, none⟩ = some (.string ⟨#[]⟩)) := by
    intro wx hx
    have hr := hx.heap HMB.out (fun hh => by have := (HV.out.lt mb hh).2; omega)
    exact ⟨(row2 hr).1, (row2 hr).2.1⟩
  go_loopw [5] (fun i wr => ∃ k : Nat, k ≤ n ∧ i = .int .i64 k ∧ wr.ownsRow B 59 2 (.slice ao n cap) n (zRow [.string MK, .string ⟨#[]⟩] k ++ xs.drop (k * 2)) ∧ Kept (OwnB (.slice ao n cap)) W1 wr) (fun i _ => n - (intOf i).toNat)
  case atStart => exact ⟨0, by omega, rfl, by simpa [zRow] using HK0.out.owns HV.out (fun _ _ x => x), Kept.refl _ _⟩
  case round =>
    obtain ⟨k, hk, rfl, how, hkept⟩ := hrel
    obtain ⟨m1, m2⟩ := MC.out _ hkept
    by_cases hlt : k < n
    · obtain ⟨g, cap', hf, _, _⟩ := how.form (by omega)
      cases hf
      have hxl := HXL.out
      obtain ⟨⟨y0, hy0⟩, ⟨y1, hy1⟩⟩ := HXO.out k hlt
      have hzl : (zRow [Value.string MK, .string ⟨#[]⟩] k).length = k * 2 := by rw [zRow_len]; rfl
      have d0 : wr.cell? ⟨g, k * 2, none⟩ = some (.string y0) := by
        rw [how.cellAt (k * 2) (by omega), List.getElem?_append_right (by omega), hzl, List.getElem?_drop]
        simpa using hy0
      have d1 : wr.cell? ⟨g, k * 2 + 1, none⟩ = some (.string y1) := by
        rw [how.cellAt (k * 2 + 1) (by omega), List.getElem?_append_right (by omega), hzl, List.getElem?_drop, show k * 2 + (k * 2 + 1 - k * 2) = k * 2 + 1 by omega]
        exact hy1
      have df0 : wr.frozen? ⟨g, k * 2, none⟩ = false := how.frozenAt _
      have df1 : wr.frozen? ⟨g, k * 2 + 1, none⟩ = false := how.frozenAt _
      have HST := hide ((how.stored (k * 2) (.string MK)).1.stored (k * 2 + 1) (.string ⟨#[]⟩)).1
      rw [over_two _ _ xs k (by omega)] at HST
      clear how hxl hy0 hy1 hzl
      go_wp2_with fail
      go_roundw
      case rel => exact ⟨k + 1, by omega, by go_num, HST.out, (hkept.setCell ⟨g, k * 2, none⟩ (fun _ => rfl) _).setCell ⟨g, k * 2 + 1, none⟩ (fun _ => rfl) _⟩
      case measure => simp [intOf]; omega
    · obtain rfl : k = n := by omega
      have hv1 : Marks wr B 59 [.string MK, .string ⟨#[]⟩] (.slice ao k cap) k := by
        have h1 := how
        rw [List.drop_of_length_le (by rw [HXL.out]; omega), List.append_nil] at h1
        exact h1
      have hb1 : BookAt wr B ob vb vt (.slice nao ln.length ncap) lb lt ln := (H.out.keepN HK0.out).keepT hkept (t := 59) (fun j hj => owns_block (HK0.out.owns HV.out (fun _ _ x => x)) hj) (by decide) (fun e => by cases e) (fun e => by cases e) (fun _ i hi j hj hx => HFR.out i hi j hj hx)
      have hsz : B ≤ wr.heap.size := Nat.le_trans H.out.lo (Nat.le_of_lt (Array.getElem?_eq_some_iff.1 hb1.blk).1)
      have HV1 := hide hv1
      have HB1 := hide (And.intro hb1 trivial)
      have HKK0 := hide hkept
      clear hv1 hb1 how hkept
      go_wp2_with (first | (at_builtin; refine wpList_append3 _ rfl (.tmp 28) (.tmp 30) 53 53 rfl B 59 zeroNt [.string MK, .string ⟨#[]⟩] 32 Tryd.underlying53 info59 rfl (Nat.succ_pos 1) (.slice ao k cap) k rfl (Marks.keepN HV1.out ((Kept.refl NoB _).alloc _)) (.slice (some ⟨wr.heap.size, 0, none⟩) 1 1) 1 rfl (Src.ofSlice _ Tryd.underlying53 _ 1 1 _ rfl (row_new' _ _ _ _ _ rfl rfl) (zRow_str MK 1)) (by omega) (by unfold maxLen; omega) (by simp; omega) ?_; intro v1 w1 hx1 hall1 hg1 hl1; obtain ⟨ao1, cap1, rfl⟩ := owns_shape hx1; have hvv1 := hide (hall1 _ _ (Marks.keepN HV1.out ((Kept.refl NoB _).alloc _))); have hbb1 := hide (HB1.out.1.grewN HV1.out HFR.out hg1); have hss1 : B ≤ w1.heap.size := Nat.le_trans hsz (by have := hg1.size; simp at this; omega); have hxx1 := hide hx1; have haa1 := hide hall1; have hll1 := hide hl1; have hkk1 := hide (HKK0.out.trans hbb1.out.2); have HKK1 := hkk1; have m01 := MC.out _ hkk1.out; have m11 := m01.1; have m21 := m01.2; clear hx1 hall1 hg1 hl1 m01 ) | (at_builtin; refine wpList_append3 _ rfl (.tmp 32) (.tmp 35) 53 53 rfl B 59 zeroNt [.string MK, .string ⟨#[]⟩] 32 Tryd.underlying53 info59 rfl (Nat.succ_pos 1) (.slice ao k cap) k rfl (Marks.keepN hvv1.out ((Kept.refl NoB _).alloc _)) (.slice (some ⟨w1.heap.size, 0, none⟩) 2 2) 2 rfl (Src.ofSlice _ Tryd.underlying53 _ 2 2 _ rfl (row_new' _ _ _ _ _ rfl rfl) (zRow_str MK 2)) (by omega) (by unfold maxLen; omega) (by simp; omega) ?_; intro v2 w2 hx2 hall2 hg2 hl2; obtain ⟨ao2, cap2, rfl⟩ := owns_shape hx2; have hvv2 := hide (hall2 _ _ (Marks.keepN hvv1.out ((Kept.refl NoB _).alloc _))); have hbb2 := hide (hbb1.out.1.grewN hvv1.out HFR.out hg2); have hss2 : B ≤ w2.heap.size := Nat.le_trans hss1 (by have := hg2.size; simp at this; omega); have hxx2 := hide hx2; have haa2 := hide hall2; have hll2 := hide hl2; have hkk2 := hide (HKK1.out.trans hbb2.out.2); have HKK2 := hkk2; have m02 := MC.out _ hkk2.out; have m12 := m02.1; have m22 := m02.2; clear hx2 hall2 hg2 hl2 m02 ) | (at_builtin; refine wpList_append3 _ rfl (.tmp 37) (.tmp 41) 53 53 rfl B 59 zeroNt [.string MK, .string ⟨#[]⟩] 32 Tryd.underlying53 info59 rfl (Nat.succ_pos 1) (.slice ao k cap) k rfl (Marks.keepN hvv2.out ((Kept.refl NoB _).alloc _)) (.slice (some ⟨w2.heap.size, 0, none⟩) 3 3) 3 rfl (Src.ofSlice _ Tryd.underlying53 _ 3 3 _ rfl (row_new' _ _ _ _ _ rfl rfl) (zRow_str MK 3)) (by omega) (by unfold maxLen; omega) (by simp; omega) ?_; intro v3 w3 hx3 hall3 hg3 hl3; obtain ⟨ao3, cap3, rfl⟩ := owns_shape hx3; have hvv3 := hide (hall3 _ _ (Marks.keepN hvv2.out ((Kept.refl NoB _).alloc _))); have hbb3 := hide (hbb2.out.1.grewN hvv2.out HFR.out hg3); have hss3 : B ≤ w3.heap.size := Nat.le_trans hss2 (by have := hg3.size; simp at this; omega); have hxx3 := hide hx3; have haa3 := hide hall3; have hll3 := hide hl3; have hkk3 := hide (HKK2.out.trans hbb3.out.2); have HKK3 := hkk3; have m03 := MC.out _ hkk3.out; have m13 := m03.1; have m23 := m03.2; clear hx3 hall3 hg3 hl3 m03 ; have e0 := hbb3.out.1.cellN; rw [HQ.out] at e0; have HOB := hide hbb3.out.1.ownn; rw [HQ.out] at HOB) | (at_builtin; refine wpList_append2 _ rfl (.tmp 47) (.tmp 52) 27 27 rfl B 53 (.slice none 0 0) 1 24 Tryd.underlying27 info53 rfl (.slice nao (4 * q) ncap) (4 * q) ln rfl (HOB.out.alloc _) (.slice (some ⟨w3.heap.size, 0, none⟩) 4 4) 4 [.slice ao k cap, .slice ao1 (k + 1) cap1, .slice ao2 (k + 2) cap2, .slice ao3 (k + 3) cap3] rfl (Src.ofSlice _ Tryd.underlying27 _ 4 4 _ rfl (row_new' _ _ _ _ _ rfl rfl) (by intro u hu; simp at hu; rcases hu with rfl | rfl | rfl | rfl <;> rfl)) (by omega) (by unfold maxLen; omega) (by simp; omega) ?_; intro vb4 w4 hown4 hold4 hg4 hl4; obtain ⟨ao4, cap4, rfl⟩ := owns_shape hown4; have ek := hbb3.out.1.blkN (by rw [HQ.out]; exact hg4); have k0 := cell_of_row _ _ 3 _ _ _ ek; have kf := frozen_of_row _ _ 3 _ _ ek; simp at k0))
      go_end0
      refine ⟨rfl, .slice ao4 (4 * q + 4) cap4, .slice ao1 (k + 1) cap1, .slice ao2 (k + 2) cap2, .slice ao3 (k + 3) cap3, ?_⟩
      have hb3 := hbb3.out.1
      have m0 : Marks w3 B 59 [.string MK, .string ⟨#[]⟩] (.slice ao k cap) k := hvv3.out
      have n1 : Marks w3 B 59 [.string MK, .string ⟨#[]⟩] (.slice ao1 (k + 1) cap1) (k + 1) := haa3.out _ _ (Marks.keepN (haa2.out _ _ (Marks.keepN hxx1.out ((Kept.refl NoB _).alloc _))) ((Kept.refl NoB _).alloc _))
      have n2 : Marks w3 B 59 [.string MK, .string ⟨#[]⟩] (.slice ao2 (k + 2) cap2) (k + 2) := haa3.out _ _ (Marks.keepN hxx2.out ((Kept.refl NoB _).alloc _))
      have n3 : Marks w3 B 59 [.string MK, .string ⟨#[]⟩] (.slice ao3 (k + 3) cap3) (k + 3) := hxx3.out
      rw [← HZ.out] at m0 n1 n2 n3
      obtain ⟨r1, r2⟩ := hb3.pushN HQ.out m0 n1 n2 n3 (by rw [HQ.out]; exact hown4) (by rw [HQ.out]; exact hg4)
      have hkw : Kept (NSet (.slice ao k cap) (.slice nao ln.length ncap) ob) w w3 := ((HK0.out.mono (fun _ _ x => x.elim)).trans' (HKK3.out) (fun i _ x => .inl x))
      refine ⟨r1, hkw.trans' r2 (fun i _ x => .inr x), ?_⟩
      have hw1 : w.heap.size ≤ wr.heap.size := Nat.le_trans HK0.out.size HKK0.out.size
      have hw2 : w.heap.size ≤ w1.heap.size := Nat.le_trans HK0.out.size HKK1.out.size
      have hw3 : w.heap.size ≤ w2.heap.size := Nat.le_trans HK0.out.size HKK2.out.size
      intro u hu j hj
      simp only [List.mem_cons, List.mem_nil_iff, or_false] at hu
      rcases hu with rfl | rfl | rfl | rfl
      · exact .inl hj
      · rcases hll1.out j hj with x | x
        · exact .inl x
        · right; simp at x; omega
      · rcases hll2.out j hj with x | x
        · exact .inl x
        · right; simp at x; omega
      · rcases hll3.out j hj with x | x
        · exact .inl x
        · right; simp at x; omega
end Go.Proofs.YtidioioldlmciaaDoor
