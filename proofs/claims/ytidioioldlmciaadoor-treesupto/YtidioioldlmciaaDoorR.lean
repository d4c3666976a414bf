import Derived.Test.YtidioioldlmciaaDoorQ
namespace Go.Proofs.YtidioioldlmciaaDoor
open Go.RowKit

def mEn (a : ByteArray) : List Value := [.string a, .int .i64 0, .int .i64 0, .int .i64 0, .slice none 0 0, .string ⟨#[]⟩]
theorem over_six (a : ByteArray) (xs : List Value) (k : Nat) (hk : (k + 1) * 6 ≤ xs.length) :
    ((((((zRow (mEn a) k ++ xs.drop (k * 6)).set (k * 6) (.string a)).set (k * 6 + 1) (.int .i64 0)).set (k * 6 + 2) (.int .i64 0)).set (k * 6 + 3) (.int .i64 0)).set (k * 6 + 4) (.slice none 0 0)).set (k * 6 + 5) (.string ⟨#[]⟩) = zRow (mEn a) (k + 1) ++ xs.drop ((k + 1) * 6) := by
  have hl : (zRow (mEn a) k).length = k * 6 := by rw [zRow_len]; rfl
  rw [List.drop_eq_getElem_cons (show k * 6 < xs.length by omega), List.drop_eq_getElem_cons (show k * 6 + 1 < xs.length by omega), List.drop_eq_getElem_cons (show k * 6 + 1 + 1 < xs.length by omega), List.drop_eq_getElem_cons (show k * 6 + 1 + 1 + 1 < xs.length by omega),
    List.drop_eq_getElem_cons (show k * 6 + 1 + 1 + 1 + 1 < xs.length by omega), List.drop_eq_getElem_cons (show k * 6 + 1 + 1 + 1 + 1 + 1 < xs.length by omega)]
  rw [set_two _ _ _ _ _ _ _ hl]
  have e1 : ∀ (p1 p2 p3 p4 : Value) (r : List Value), zRow (mEn a) k ++ (Value.string a :: Value.int .i64 0 :: p1 :: p2 :: p3 :: p4 :: r) = (zRow (mEn a) k ++ [.string a, .int .i64 0]) ++ (p1 :: p2 :: p3 :: p4 :: r) := by intros; simp
  rw [e1, set_two _ _ _ _ _ _ (k * 6 + 2) (by simp [hl])]
  have e2 : ∀ (p3 p4 : Value) (r : List Value), (zRow (mEn a) k ++ [Value.string a, .int .i64 0]) ++ (Value.int .i64 0 :: Value.int .i64 0 :: p3 :: p4 :: r) = (zRow (mEn a) k ++ [.string a, .int .i64 0, .int .i64 0, .int .i64 0]) ++ (p3 :: p4 :: r) := by intros; simp
  rw [e2, set_two _ _ _ _ _ _ (k * 6 + 4) (by simp [hl]), zRow_snoc, show (k + 1) * 6 = k * 6 + 1 + 1 + 1 + 1 + 1 + 1 by omega]
  simp [mEn]
theorem zRow_en (a : ByteArray) (m : Nat) : ∀ u ∈ zRow (mEn a) m, u.oneCell' = true := by
  intro u hu
  simp [zRow, mEn] at hu
  obtain ⟨l, ⟨_, rfl⟩, hu⟩ := hu
  simp at hu
  rcases hu with rfl | rfl | rfl | rfl <;> rfl

/-- a list of entries that came out: the row and the notes, none shared -/
structure OutTree (w : World) (B : Nat) (v : Value) (zs : List (En × Value)) : Prop where
  own : w.ownsRow B 55 6 v zs.length (zs.flatMap enCells)
  nts : ∀ z ∈ zs, w.ownsRow B 59 2 z.2 z.1.notes.length (z.1.notes.flatMap ntCells)
  apart : ∀ i j (hi : i < zs.length) (hj : j < zs.length), i < j → ∀ k, zs[i].2.ownBlock = some k → zs[j].2.ownBlock ≠ some k

/-- between two entries -/
structure TTInv (w0 w : World) (B ob : Nat) (vb vt : Value) (lb lt : List Value) (v : Value) (zs : List (En × Value)) (k qn : Nat) (vn : Value) (ln : List Value) : Prop where
  book : BookAt w B ob vb vt vn lb lt ln
  len : ln.length = 4 * (qn + k)
  own : w.ownsRow B 55 6 v zs.length (zs.flatMap enCells)
  nts : ∀ j (hj : j < zs.length), k ≤ j → w.ownsRow B 59 2 zs[j].2 zs[j].1.notes.length (zs[j].1.notes.flatMap ntCells)
  fr : ∀ j (hj : j < zs.length), k ≤ j → ∀ i (hi : i < ln.length), ∀ b, ln[i].ownBlock = some b → zs[j].2.ownBlock ≠ some b
  kept : Kept (UpB B) w0 w

theorem TTInv.step {w0 w w' : World} {B ob : Nat} {vb vt : Value} {lb lt : List Value} {v : Value} {zs : List (En × Value)} {k qn : Nat} {vn vn' x y z : Value} {ln : List Value} (h : TTInv w0 w B ob vb vt lb lt v zs k qn vn ln) (hk : k < zs.length)
    (hap : ∀ i j (hi : i < zs.length) (hj : j < zs.length), i < j → ∀ k, zs[i].2.ownBlock = some k → zs[j].2.ownBlock ≠ some k)
    (hb : BookAt w' B ob vb vt vn' lb lt (ln ++ [zs[k].2, x, y, z])) (hkk : Kept (NSet zs[k].2 vn ob) w w') (hu : ∀ u ∈ [zs[k].2, x, y, z], ∀ b, u.ownBlock = some b → zs[k].2.ownBlock = some b ∨ w.heap.size ≤ b) :
    TTInv w0 w' B ob vb vt lb lt v zs (k + 1) qn vn' (ln ++ [zs[k].2, x, y, z]) := by
  have hz := h.nts k hk (Nat.le_refl _)
  refine ⟨hb, by simp [h.len]; omega, hkk.owns h.own (fun b hb' => ?_), fun j hj hkj => hkk.owns (h.nts j hj (by omega)) (fun b hb' => ?_), fun j hj hkj i hi b hb' => ?_, h.kept.trans' hkk (fun i _ hi => ?_)⟩
  · obtain ⟨c, hc⟩ := owns_block h.own hb'
    rintro (x | x | x)
    · exact owns_ne hz hc (by decide) b x rfl
    · exact owns_ne h.book.ownn hc (by decide) b x rfl
    · subst x; exact block_ne hc h.book.blk (by decide) rfl
  · obtain ⟨c, hc⟩ := owns_block (h.nts j hj (by omega)) hb'
    rintro (x | x | x)
    · exact hap k j hk hj (by omega) b x hb'
    · exact owns_ne h.book.ownn hc (by decide) b x rfl
    · subst x; exact block_ne hc h.book.blk (by decide) rfl
  · by_cases h1 : i < ln.length
    · rw [List.getElem_append_left h1] at hb'
      exact h.fr j hj (by omega) i h1 b hb'
    · have hm : (ln ++ [zs[k].2, x, y, z])[i] ∈ [zs[k].2, x, y, z] := by
        rw [List.getElem_append_right (by omega)]
        exact List.getElem_mem _
      rcases hu _ hm b hb' with hx | hx
      · exact hap k j hk hj (by omega) b hx
      · intro hj'
        have := ((h.nts j hj (by omega)).lt b hj').2
        omega
  · rcases hi with x | x | x
    · exact (hz.lt i x).1
    · exact (h.book.ownn.lt i x).1
    · rw [x]; exact h.book.lo

set_option maxRecDepth 100000 in
set_option maxHeartbeats 16000000 in
theorem takeTree_any (B ob : Nat) (vb vt vn : Value) (lb lt ln : List Value) (qt qn n : Nat) (v : Value) (zs : List (En × Value)) (w : World) (h : BookAt w B ob vb vt vn lb lt ln) (hq : lt.length = 4 * qt) (hqn : ln.length = 4 * qn) (hzn : zs.length = n) (hb1 : qt ≤ 900000) (hb2 : qn + n ≤ 900000)
    (hv : OutTree w B v zs) (hfr : ∀ i (hi : i < ln.length), ∀ k, ln[i].ownBlock = some k → ∀ z ∈ zs, z.2.ownBlock ≠ some k) (hfr2 : ∀ i (hi : i < lt.length), ∀ k, lt[i].ownBlock = some k → v.ownBlock ≠ some k) (hnn : ∀ z ∈ zs, z.1.notes.length ≤ 1000000) :
    Calls Tryd.prog 16 #[.pointer (some ⟨ob, 0, none⟩), v] w fun e w' => e = .returned (.tuple #[]) ∧ ∃ vt' vn' lt' ln', BookAt w' B ob vb vt' vn' lb lt' ln' ∧ lt'.length = 4 * (qt + 1) ∧ ln'.length = 4 * (qn + n) ∧ Kept (UpB B) w w' := by
  obtain ⟨ao, cap, rfl⟩ := owns_shape hv.own
  obtain ⟨tao, tcap, rfl⟩ := owns_shape h.ownt
  subst hzn
  obtain ⟨n, hn⟩ : ∃ n, n = zs.length := ⟨_, rfl⟩
  rw [← hn] at hb2 ⊢
  have HNZ := hide hn
  have hI : TTInv w w B ob vb (.slice tao lt.length tcap) lb lt (.slice ao zs.length cap) zs 0 qn vn ln := ⟨h, hqn, hv.own, fun j hj _ => hv.nts _ (List.getElem_mem hj), fun j hj _ i hi b hb => hfr i hi b hb _ (List.getElem_mem hj), Kept.refl _ _⟩
  rw [← hn] at hI
  have HI := hide hI
  have HQ := hide hq
  have HAP := hide hv.apart
  have HFR2 := hide hfr2
  have HNN := hide hnn
  clear h hq hqn hv hfr hfr2 hnn hI hn
  go_enter Tryd.func16, Tryd.ntmps16
  go_wp2_with fail
  go_loopw [4] (fun i wr => ∃ (k : Nat) (vn' : Value) (ln' : List Value), k ≤ n ∧ i = .int .i64 k ∧ TTInv w wr B ob vb (.slice tao lt.length tcap) lb lt (.slice ao n cap) zs k qn vn' ln') (fun i _ => n - (intOf i).toNat)
  case atStart => exact ⟨0, vn, ln, by omega, rfl, HI.out⟩
  case round =>
    obtain ⟨k, vn', ln', hk, rfl, hT⟩ := hrel
    by_cases hlt : k < n
    · have hltz : k < zs.length := by rw [← HNZ.out]; exact hlt
      have how := hT.own
      rw [← HNZ.out] at how
      obtain ⟨g, cap', hf, _, _⟩ := how.form (by omega)
      cases hf
      have c4 : wr.cell? ⟨g, k * 6 + 4, none⟩ = some zs[k].2 := by
        rw [how.cellAt (k * 6 + 4) (by omega)]
        exact flat_at enCells 6 (fun _ => rfl) zs k 4 hltz (by decide)
      have HT := hide hT
      have hnk := HNN.out zs[k] (List.getElem_mem hltz)
      clear how hT
      go_wp2_with fail
      refine (takeNotes_any B ob vb (.slice tao lt.length tcap) vn' lb lt ln' (qn + k) zs[k].2 zs[k].1.notes.length (zs[k].1.notes.flatMap ntCells) wr HT.out.book HT.out.len (by omega) (HT.out.nts k hltz (Nat.le_refl _)) (fun j hj => ?_) (HT.out.fr k hltz (Nat.le_refl _)) hnk).mono ?_
      · have h0 := flat_at ntCells 2 (fun _ => rfl) zs[k].1.notes j 0 hj (by decide)
        have h1 := flat_at ntCells 2 (fun _ => rfl) zs[k].1.notes j 1 hj (by decide)
        exact ⟨⟨_, h0⟩, ⟨_, h1⟩⟩
      rintro r w1 ⟨rfl, vn2, x, y, z, hb, hkk, hu⟩
      have HS := hide (HT.out.step hltz HAP.out hb hkk hu)
      clear hb hkk hu
      go_wp2_with fail
      go_roundw
      case rel => exact ⟨k + 1, vn2, _, by omega, by go_num, HS.out⟩
      case measure => simp [intOf]; omega
    · obtain rfl : k = n := by omega
      have c2 := hT.book.cellT
      rw [HQ.out] at c2
      have HT := hide hT
      have hcm := marked_any (qt + 1) wr (by omega)
      rw [show ((qt + 1 : Nat) : Int) = (qt : Int) + 1 by omega] at hcm
      have HCM := hide hcm
      clear hcm hT
      go_wp2_with fail
      refine HCM.out.mono ?_
      rintro r wm ⟨rfl, hkm⟩
      obtain ⟨MK, hMK⟩ : ∃ MK : ByteArray, MK = ⟨(markL (qt + 1)).toArray⟩ := ⟨_, rfl⟩
      rw [← hMK]
      have HZ : Hid (tz (4 * qt) = mEn MK) := by
        unfold Hid tz markS
        rw [hMK, show 4 * qt / 4 = qt by omega]
        rfl
      clear hMK
      have HKM := hide hkm
      clear hkm
      go_wp2_with fail
      generalize hW1 : wm.alloc (.cells #[.string MK, .int .i64 0, .int .i64 0, .int .i64 0, .slice none 0 0, .string ⟨#[]⟩] 55) = W1
      have HK0 : Hid (Kept NoB wr W1) := by unfold Hid; rw [← hW1]; exact HKM.out.alloc _
      have hmb : wr.heap.size ≤ wm.heap.size := HKM.out.size
      have HMB : Hid (W1.heap[wm.heap.size]? = some (.cells #[.string MK, .int .i64 0, .int .i64 0, .int .i64 0, .slice none 0 0, .string ⟨#[]⟩] 55 (0, 0))) := by unfold Hid; rw [← hW1]; exact heap_alloc_new wm _
      clear hW1
      generalize wm.heap.size = mb at *
      have HV : Hid (W1.ownsRow B 55 6 (.slice ao k cap) k (zs.flatMap enCells)) := by
        unfold Hid
        have := HT.out.own
        rw [← HNZ.out] at this
        exact HK0.out.owns this (fun _ _ x => x)
      have HVL : Hid (∀ j, (Value.slice ao k cap).ownBlock = some j → B ≤ j ∧ j < wr.heap.size) := by
        have := HT.out.own
        rw [← HNZ.out] at this
        exact fun j hj => this.lt j hj
      have MC : Hid (∀ wx, Kept (OwnB (.slice ao k cap)) W1 wx → wx.cell? ⟨mb, 0, none⟩ = some (.string MK) ∧ wx.cell? ⟨mb, 1, none⟩ = some (.int .i64 0) ∧ wx.cell? ⟨mb, 2, none⟩ = some (.int .i64 0) ∧ wx.cell? ⟨mb, 3, none⟩ = some (.int .i64 0) ∧ wx.cell? ⟨mb, 4, none⟩ = some (.slice none 0 0) ∧ wx.cell? ⟨mb, 5, none⟩ = some (.string ⟨#[]⟩)) := by
        intro wx hx
        have hr := hx.heap HMB.out (fun hh => by have := (HVL.out mb hh).2; omega)
        obtain ⟨b0, b1, b2, b3, b4, b5, _⟩ := box_cells hr
        exact ⟨b0, b1, b2, b3, b4, b5⟩
      obtain ⟨X, hX⟩ : ∃ X, X = zs.flatMap enCells := ⟨_, rfl⟩
      have hXl : X.length = k * 6 := by rw [hX, flat_len enCells 6 (fun _ => rfl), HNZ.out]
      rw [← hX] at HV
      have HX := hide hX
      have HXL := hide hXl
      have HXO : Hid (∀ j, j < k → ∃ a0 a1 a2 a3 a4 a5 c5 d5, X[j * 6]? = some (.string a0) ∧ X[j * 6 + 1]? = some (.int .i64 a1) ∧ X[j * 6 + 2]? = some (.int .i64 a2) ∧ X[j * 6 + 3]? = some (.int .i64 a3) ∧ X[j * 6 + 4]? = some (.slice a4 a5 c5) ∧ X[j * 6 + 5]? = some (.string d5)) := by
        intro j hj
        rw [HNZ.out] at hj
        have e := fun i hi => flat_at enCells 6 (fun _ => rfl) zs j i hj hi
        rw [← hX] at e
        obtain ⟨sa, sc, hs⟩ := owns_shape (HI.out.nts j hj (Nat.zero_le _))
        refine ⟨_, _, _, _, sa, zs[j].1.notes.length, sc, _, e 0 (by decide), e 1 (by decide), e 2 (by decide), e 3 (by decide), ?_, e 5 (by decide)⟩
        rw [e 4 (by decide)]
        exact congrArg some hs
      clear hX hXl
      generalize HT.out.book = hbk at *
      go_loopw [6] (fun i w2 => ∃ j : Nat, j ≤ k ∧ i = .int .i64 j ∧ w2.ownsRow B 55 6 (.slice ao k cap) k (zRow (mEn MK) j ++ X.drop (j * 6)) ∧ Kept (OwnB (.slice ao k cap)) W1 w2) (fun i _ => k - (intOf i).toNat)
      case atStart => exact ⟨0, by omega, rfl, by simpa [zRow] using HV.out, Kept.refl _ _⟩
      case round =>
        obtain ⟨j, hj, rfl, how, hkept⟩ := hrel
        rename World => w2
        obtain ⟨p0, p1, p2, p3, p4, p5⟩ := MC.out _ hkept
        by_cases hlt2 : j < k
        · obtain ⟨g, cap', hf, _, _⟩ := how.form (by omega)
          cases hf
          have hxl := HXL.out
          have hzl : (zRow (mEn MK) j).length = j * 6 := by rw [zRow_len]; rfl
          have key : ∀ i, i < 6 → w2.cell? ⟨g, j * 6 + i, none⟩ = X[j * 6 + i]? := by
            intro i hi
            rw [how.cellAt (j * 6 + i) (by omega), List.getElem?_append_right (by omega), hzl, List.getElem?_drop, show j * 6 + (j * 6 + i - j * 6) = j * 6 + i by omega]
          obtain ⟨a0, a1, a2, a3, a4, a5, c5, d5, x0, x1, x2, x3, x4, x5⟩ := HXO.out j hlt2
          have d0 : w2.cell? ⟨g, j * 6, none⟩ = some (.string a0) := (key 0 (by decide)).trans x0
          have d1 := (key 1 (by decide)).trans x1
          have d2 := (key 2 (by decide)).trans x2
          have d3 := (key 3 (by decide)).trans x3
          have d4 := (key 4 (by decide)).trans x4
          have d6 := (key 5 (by decide)).trans x5
          have df : ∀ i, w2.frozen? ⟨g, i, none⟩ = false := fun i => how.frozenAt i
          have HST := hide ((((((how.stored (j * 6) (.string MK)).1.stored (j * 6 + 1) (.int .i64 0)).1.stored (j * 6 + 2) (.int .i64 0)).1.stored (j * 6 + 3) (.int .i64 0)).1.stored (j * 6 + 4) (.slice none 0 0)).1.stored (j * 6 + 5) (.string ⟨#[]⟩)).1
          rw [over_six MK X j (by omega)] at HST
          clear how hxl hzl key x0 x1 x2 x3 x4 x5
          go_wp2_with fail
          go_roundw
          case rel => exact ⟨j + 1, by omega, by go_num, HST.out, (((((hkept.setCell ⟨g, j * 6, none⟩ (fun _ => rfl) _).setCell ⟨g, j * 6 + 1, none⟩ (fun _ => rfl) _).setCell ⟨g, j * 6 + 2, none⟩ (fun _ => rfl) _).setCell ⟨g, j * 6 + 3, none⟩ (fun _ => rfl) _).setCell ⟨g, j * 6 + 4, none⟩ (fun _ => rfl) _).setCell ⟨g, j * 6 + 5, none⟩ (fun _ => rfl) _⟩
          case measure => simp [intOf]; omega
        · obtain rfl : j = k := by omega
          obtain ⟨wb, hwb⟩ : ∃ wb, wb = w2 := ⟨_, rfl⟩
          rw [← hwb] at how hkept p0 p1 p2 p3 p4 p5 ⊢
          clear hwb
          have hv1 : Marks wb B 55 (mEn MK) (.slice ao j cap) j := by
            have h1 := how
            rw [List.drop_of_length_le (by rw [HXL.out]; omega), List.append_nil] at h1
            exact h1
          have hb1 : BookAt wb B ob vb (.slice tao lt.length tcap) vn' lb lt ln' := (HT.out.book.keepN HK0.out).keepT hkept (t := 55) (fun i hi => owns_block HV.out hi) (by decide) (fun e => by cases e) (fun _ i hi b hb hx => HFR2.out i hi b hb (by rw [← HNZ.out]; exact hx)) (fun e => by cases e)
          have hsz : B ≤ wb.heap.size := Nat.le_trans HT.out.book.lo (Nat.le_of_lt (Array.getElem?_eq_some_iff.1 hb1.blk).1)
          have HV1 := hide hv1
          have HB1 := hide (And.intro hb1 trivial)
          have HKK0 := hide hkept
          have HFR3 : Hid (∀ i (hi : i < lt.length), ∀ b, lt[i].ownBlock = some b → (Value.slice ao j cap).ownBlock ≠ some b) := by
            intro i hi b hb
            have := HFR2.out i hi b hb
            rw [← HNZ.out] at this
            exact this
          clear hv1 hb1 how hkept
          go_wp2_with (first | (at_builtin; refine wpList_append3 _ rfl (.tmp 42) (.tmp 44) 22 22 rfl B 55 zeroEn (mEn MK) 80 Tryd.underlying22 info55 rfl (Nat.succ_pos 5) (.slice ao j cap) j rfl (Marks.keepN HV1.out ((Kept.refl NoB _).alloc _)) (.slice (some ⟨wb.heap.size, 0, none⟩) 1 1) 1 rfl (Src.ofSlice _ Tryd.underlying22 _ 1 1 _ rfl (row_new' _ _ _ _ _ rfl rfl) (zRow_en MK 1)) (by omega) (by unfold maxLen; omega) (by simp; omega) ?_; intro v1 w1 hx1 hall1 hg1 _; obtain ⟨ao1, cap1, rfl⟩ := owns_shape hx1; have hvv1 := hide (hall1 _ _ (Marks.keepN HV1.out ((Kept.refl NoB _).alloc _))); have hbb1 := hide (HB1.out.1.grewT HV1.out HFR3.out hg1); have hss1 : B ≤ w1.heap.size := Nat.le_trans hsz (by have := hg1.size; simp at this; omega); have hxx1 := hide hx1; have haa1 := hide hall1; have HKK1 := hide (HKK0.out.trans hbb1.out.2); obtain ⟨p01, p11, p21, p31, p41, p51⟩ := MC.out _ HKK1.out; clear hx1 hall1 hg1 ) | (at_builtin; refine wpList_append3 _ rfl (.tmp 46) (.tmp 49) 22 22 rfl B 55 zeroEn (mEn MK) 80 Tryd.underlying22 info55 rfl (Nat.succ_pos 5) (.slice ao j cap) j rfl (Marks.keepN hvv1.out ((Kept.refl NoB _).alloc _)) (.slice (some ⟨w1.heap.size, 0, none⟩) 2 2) 2 rfl (Src.ofSlice _ Tryd.underlying22 _ 2 2 _ rfl (row_new' _ _ _ _ _ rfl rfl) (zRow_en MK 2)) (by omega) (by unfold maxLen; omega) (by simp; omega) ?_; intro v2 w2 hx2 hall2 hg2 _; obtain ⟨ao2, cap2, rfl⟩ := owns_shape hx2; have hvv2 := hide (hall2 _ _ (Marks.keepN hvv1.out ((Kept.refl NoB _).alloc _))); have hbb2 := hide (hbb1.out.1.grewT hvv1.out HFR3.out hg2); have hss2 : B ≤ w2.heap.size := Nat.le_trans hss1 (by have := hg2.size; simp at this; omega); have hxx2 := hide hx2; have haa2 := hide hall2; have HKK2 := hide (HKK1.out.trans hbb2.out.2); obtain ⟨p02, p12, p22, p32, p42, p52⟩ := MC.out _ HKK2.out; clear hx2 hall2 hg2 ) | (at_builtin; refine wpList_append3 _ rfl (.tmp 51) (.tmp 55) 22 22 rfl B 55 zeroEn (mEn MK) 80 Tryd.underlying22 info55 rfl (Nat.succ_pos 5) (.slice ao j cap) j rfl (Marks.keepN hvv2.out ((Kept.refl NoB _).alloc _)) (.slice (some ⟨w2.heap.size, 0, none⟩) 3 3) 3 rfl (Src.ofSlice _ Tryd.underlying22 _ 3 3 _ rfl (row_new' _ _ _ _ _ rfl rfl) (zRow_en MK 3)) (by omega) (by unfold maxLen; omega) (by simp; omega) ?_; intro v3 w3 hx3 hall3 hg3 _; obtain ⟨ao3, cap3, rfl⟩ := owns_shape hx3; have hvv3 := hide (hall3 _ _ (Marks.keepN hvv2.out ((Kept.refl NoB _).alloc _))); have hbb3 := hide (hbb2.out.1.grewT hvv2.out HFR3.out hg3); have hss3 : B ≤ w3.heap.size := Nat.le_trans hss2 (by have := hg3.size; simp at this; omega); have hxx3 := hide hx3; have haa3 := hide hall3; have HKK3 := hide (HKK2.out.trans hbb3.out.2); obtain ⟨p03, p13, p23, p33, p43, p53⟩ := MC.out _ HKK3.out; clear hx3 hall3 hg3 ; have e0 := hbb3.out.1.cellT; rw [HQ.out] at e0; have HOB := hide hbb3.out.1.ownt; rw [HQ.out] at HOB) | (at_builtin; refine wpList_append2 _ rfl (.tmp 61) (.tmp 66) 26 26 rfl B 22 (.slice none 0 0) 1 24 Tryd.underlying26 info22 rfl (.slice tao (4 * qt) tcap) (4 * qt) lt rfl (HOB.out.alloc _) (.slice (some ⟨w3.heap.size, 0, none⟩) 4 4) 4 [.slice ao j cap, .slice ao1 (j + 1) cap1, .slice ao2 (j + 2) cap2, .slice ao3 (j + 3) cap3] rfl (Src.ofSlice _ Tryd.underlying26 _ 4 4 _ rfl (row_new' _ _ _ _ _ rfl rfl) (by intro u hu; simp at hu; rcases hu with rfl | rfl | rfl | rfl <;> rfl)) (by omega) (by unfold maxLen; omega) (by simp; omega) ?_; intro vb4 w4 hown4 hold4 hg4 hl4; obtain ⟨ao4, cap4, rfl⟩ := owns_shape hown4; have ek := hbb3.out.1.blkT (by rw [HQ.out]; exact hg4); have k0 := cell_of_row _ _ 2 _ _ _ ek; have kf := frozen_of_row _ _ 2 _ _ ek; simp at k0))
          go_end0
          have hb3 := hbb3.out.1
          have m0 : Marks w3 B 55 (mEn MK) (.slice ao j cap) j := hvv3.out
          have n1 : Marks w3 B 55 (mEn MK) (.slice ao1 (j + 1) cap1) (j + 1) := haa3.out _ _ (Marks.keepN (haa2.out _ _ (Marks.keepN hxx1.out ((Kept.refl NoB _).alloc _))) ((Kept.refl NoB _).alloc _))
          have n2 : Marks w3 B 55 (mEn MK) (.slice ao2 (j + 2) cap2) (j + 2) := haa3.out _ _ (Marks.keepN hxx2.out ((Kept.refl NoB _).alloc _))
          have n3 : Marks w3 B 55 (mEn MK) (.slice ao3 (j + 3) cap3) (j + 3) := hxx3.out
          rw [← HZ.out] at m0 n1 n2 n3
          obtain ⟨r1, r2⟩ := hb3.pushT HQ.out m0 n1 n2 n3 (by rw [HQ.out]; exact hown4) (by rw [HQ.out]; exact hg4)
          refine ⟨rfl, _, vn', _, ln', r1, by simp [HQ.out]; omega, HT.out.len, ?_⟩
          have k1 : Kept (UpB B) w W1 := HT.out.kept.trans' HK0.out (fun _ _ x => x.elim)
          have k2 : Kept (UpB B) w w3 := k1.trans' HKK3.out (fun i _ x => (HVL.out i x).1)
          exact k2.trans' r2 (fun i _ x => by
            rcases x with x | x
            · exact (hb3.ownt.lt i x).1
            · rw [x]; exact hb3.lo)
end Go.Proofs.YtidioioldlmciaaDoor
