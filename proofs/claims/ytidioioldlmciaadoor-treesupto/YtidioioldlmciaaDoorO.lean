import Derived.Test.YtidioioldlmciaaDoorN
namespace Go.Proofs.YtidioioldlmciaaDoor
open Go.RowKit

def bz (i : Nat) : List Value := [.int .u8 ((100 + i / 4 % 150 : Nat) : Int)]
def markS (i : Nat) : ByteArray := ⟨(markL (i / 4 + 1)).toArray⟩
def nz (i : Nat) : List Value := ntCells ⟨markS i, ⟨#[]⟩⟩
def tz (i : Nat) : List Value := enCells (⟨markS i, 0, 0, 0, [], ⟨#[]⟩⟩, .slice none 0 0)
theorem info32 : (Tryd.prog.info? 32).map (fun i => (i.zero, i.size, i.bytes)) = some (some (.slice none 0 0), 1, 24) := by kernel_rfl
theorem info22 : (Tryd.prog.info? 22).map (fun i => (i.zero, i.size, i.bytes)) = some (some (.slice none 0 0), 1, 24) := by kernel_rfl
theorem info53 : (Tryd.prog.info? 53).map (fun i => (i.zero, i.size, i.bytes)) = some (some (.slice none 0 0), 1, 24) := by kernel_rfl

/-- the book: its four lists of lists (no lists of numbers here), each list marked throughout -/
structure BookAt (w : World) (B ob : Nat) (vb vt vn : Value) (lb lt ln : List Value) : Prop where
  blk : w.heap[ob]? = some (.cells #[vb, .slice none 0 0, vt, vn] 29 (0, 0))
  lo : B ≤ ob
  ownb : w.ownsRow B 32 1 vb lb.length lb
  ownt : w.ownsRow B 22 1 vt lt.length lt
  ownn : w.ownsRow B 53 1 vn ln.length ln
  bs : ∀ i (h : i < lb.length), ∃ n, Marks w B 5 (bz i) lb[i] n
  ts : ∀ i (h : i < lt.length), ∃ n, Marks w B 55 (tz i) lt[i] n
  ns : ∀ i (h : i < ln.length), ∃ n, Marks w B 59 (nz i) ln[i] n

theorem BookAt.keep {S : Nat → Prop} {w w' : World} {B ob : Nat} {vb vt vn : Value} {lb lt ln : List Value} (h : BookAt w B ob vb vt vn lb lt ln) (hk : Kept S w w') (h0 : ¬ S ob) (h1 : ∀ k, vb.ownBlock = some k → ¬ S k) (h2 : ∀ k, vt.ownBlock = some k → ¬ S k) (h3 : ∀ k, vn.ownBlock = some k → ¬ S k)
    (h4 : ∀ i (hi : i < lb.length), ∀ k, lb[i].ownBlock = some k → ¬ S k) (h5 : ∀ i (hi : i < lt.length), ∀ k, lt[i].ownBlock = some k → ¬ S k) (h6 : ∀ i (hi : i < ln.length), ∀ k, ln[i].ownBlock = some k → ¬ S k) : BookAt w' B ob vb vt vn lb lt ln :=
  ⟨hk.heap h.blk h0, h.lo, hk.owns h.ownb h1, hk.owns h.ownt h2, hk.owns h.ownn h3,
    fun i hi => let ⟨n, hn⟩ := h.bs i hi; ⟨n, hk.owns hn (h4 i hi)⟩, fun i hi => let ⟨n, hn⟩ := h.ts i hi; ⟨n, hk.owns hn (h5 i hi)⟩, fun i hi => let ⟨n, hn⟩ := h.ns i hi; ⟨n, hk.owns hn (h6 i hi)⟩⟩
theorem BookAt.keepN {w w' : World} {B ob : Nat} {vb vt vn : Value} {lb lt ln : List Value} (h : BookAt w B ob vb vt vn lb lt ln) (hk : Kept NoB w w') : BookAt w' B ob vb vt vn lb lt ln :=
  h.keep hk (fun x => x) (fun _ _ x => x) (fun _ _ x => x) (fun _ _ x => x) (fun _ _ _ _ x => x) (fun _ _ _ _ x => x) (fun _ _ _ _ x => x)
/-- only blocks of byte lists that the book does not have are written -/
theorem BookAt.keepT {S : Nat → Prop} {w w' : World} {B ob : Nat} {vb vt vn : Value} {lb lt ln : List Value} (h : BookAt w B ob vb vt vn lb lt ln) (hk : Kept S w w') {t : TypeId} (hS : ∀ k, S k → ∃ c, w.heap[k]? = some (.cells c t (0, 0))) (ht : t ≠ 29 ∧ t ≠ 32 ∧ t ≠ 22 ∧ t ≠ 53)
    (h4 : t = 5 → ∀ i (hi : i < lb.length), ∀ k, lb[i].ownBlock = some k → ¬ S k) (h5 : t = 55 → ∀ i (hi : i < lt.length), ∀ k, lt[i].ownBlock = some k → ¬ S k) (h6 : t = 59 → ∀ i (hi : i < ln.length), ∀ k, ln[i].ownBlock = some k → ¬ S k) : BookAt w' B ob vb vt vn lb lt ln := by
  have key : ∀ {e : TypeId} {sz : Nat} {v : Value} {n : Nat} {xs : List Value}, w.ownsRow B e sz v n xs → e ≠ t → ∀ k, v.ownBlock = some k → ¬ S k := by
    intro e sz v n xs ho he k hk' hs
    obtain ⟨c, hc⟩ := owns_block ho hk'
    obtain ⟨d, hd⟩ := hS k hs
    exact block_ne hc hd he rfl
  refine h.keep hk (fun x => ?_) (key h.ownb (fun e => ht.2.1 e.symm)) (key h.ownt (fun e => ht.2.2.1 e.symm)) (key h.ownn (fun e => ht.2.2.2 e.symm)) (fun i hi => ?_) (fun i hi => ?_) (fun i hi => ?_)
  · obtain ⟨d, hd⟩ := hS ob x
    exact block_ne h.blk hd (fun e => ht.1 e.symm) rfl
  · by_cases e : t = 5
    · exact h4 e i hi
    · obtain ⟨n, hn⟩ := h.bs i hi
      exact key hn (fun e' => e e'.symm)
  · by_cases e : t = 55
    · exact h5 e i hi
    · obtain ⟨n, hn⟩ := h.ts i hi
      exact key hn (fun e' => e e'.symm)
  · by_cases e : t = 59
    · exact h6 e i hi
    · obtain ⟨n, hn⟩ := h.ns i hi
      exact key hn (fun e' => e e'.symm)

def UpB (B : Nat) : Nat → Prop := fun k => B ≤ k

/-- one more group of four byte lists -/
theorem BookAt.pushB {w : World} {B ob : Nat} {vb vb' vt vn : Value} {lb lt ln : List Value} {v x y z : Value} {q n : Nat} {w' : World} (h : BookAt w B ob vb vt vn lb lt ln) (hq : lb.length = 4 * q)
    (hv : Marks w B 5 (bz (4 * q)) v n) (hx : Marks w B 5 (bz (4 * q)) x (n + 1)) (hy : Marks w B 5 (bz (4 * q)) y (n + 2)) (hz : Marks w B 5 (bz (4 * q)) z (n + 3)) {o : Obj}
    (hown : w'.ownsRow B 32 1 vb' (lb.length + 4) (lb ++ [v, x, y, z])) (hg : (w.alloc o).grownBy w' vb.ownBlock) :
    BookAt (w'.setCell ⟨ob, 0, none⟩ vb') B ob vb' vt vn (lb ++ [v, x, y, z]) lt ln ∧ Kept (UpB B) w (w'.setCell ⟨ob, 0, none⟩ vb') := by
  have hk : Kept (fun k => vb.ownBlock = some k) w w' := ((Kept.refl _ w).alloc o).grown hg (fun k hk _ => hk)
  have hk2 : Kept (At ob) w' (w'.setCell ⟨ob, 0, none⟩ vb') := (Kept.refl (At ob) w').setCell ⟨ob, 0, none⟩ (fun _ => rfl) _
  have hne : ∀ k, vb.ownBlock = some k → ¬ At ob k := owns_ne h.ownb h.blk (by decide)
  have hb' := hk.heap h.blk (fun x => hne ob x rfl)
  have hbl : ∀ {e : TypeId} {sz : Nat} {u : Value} {m : Nat} {xs : List Value}, w.ownsRow B e sz u m xs → e ≠ 32 → e ≠ 29 → (w'.setCell ⟨ob, 0, none⟩ vb').ownsRow B e sz u m xs := by
    intro e sz u m xs ho he he2
    have h1 := hk.owns ho (fun k hk' hx => by
      obtain ⟨c, hc⟩ := owns_block ho hk'
      exact owns_ne h.ownb hc (fun e' => he e'.symm) k hx rfl)
    exact hk2.owns h1 (owns_ne h1 hb' he2)
  refine ⟨⟨?_, h.lo, ?_, hbl h.ownt (by decide) (by decide), hbl h.ownn (by decide) (by decide), ?_, fun i hi => let ⟨m, hm⟩ := h.ts i hi; ⟨m, hbl hm (by decide) (by decide)⟩, fun i hi => let ⟨m, hm⟩ := h.ns i hi; ⟨m, hbl hm (by decide) (by decide)⟩⟩, ?_⟩
  · rw [heap_setCell_same _ _ _ _ _ _ hb']; rfl
  · have := hk2.owns hown (owns_ne hown hb' (by decide))
    simpa using this
  · intro i hi
    by_cases h1 : i < lb.length
    · rw [List.getElem_append_left h1]
      obtain ⟨m, hm⟩ := h.bs i h1
      exact ⟨m, hbl hm (by decide) (by decide)⟩
    · obtain ⟨j, rfl⟩ : ∃ j, i = lb.length + j := ⟨i - lb.length, by omega⟩
      have hj : j < 4 := by simp at hi; omega
      have hbz : bz (lb.length + j) = bz (4 * q) := by
        unfold bz
        rw [hq, show (4 * q + j) / 4 = 4 * q / 4 by omega]
      rw [List.getElem_append_right (by omega), hbz]
      have : j = 0 ∨ j = 1 ∨ j = 2 ∨ j = 3 := by omega
      simp only [Nat.add_sub_cancel_left]
      rcases this with rfl | rfl | rfl | rfl
      · exact ⟨n, hbl hv (by decide) (by decide)⟩
      · exact ⟨n + 1, hbl hx (by decide) (by decide)⟩
      · exact ⟨n + 2, hbl hy (by decide) (by decide)⟩
      · exact ⟨n + 3, hbl hz (by decide) (by decide)⟩
  · refine (hk.mono (fun i _ hi => ?_)).trans' hk2 (fun i _ hi => ?_)
    · exact (h.ownb.lt i hi).1
    · rw [show i = ob from hi]; exact h.lo

theorem zRow_one (z : Value) (hz : z.oneCell' = true) (m : Nat) : ∀ u ∈ zRow [z] m, u.oneCell' = true := by
  intro u hu
  simp [zRow] at hu
  rw [hu.2]; exact hz
theorem one_row (W : World) (t : TypeId) (z : List Value) (m : Nat) : ∀ j u, (zRow z m)[j]? = some u → (W.alloc (.cells (zRow z m).toArray t)).cell? ((⟨W.heap.size, 0, none⟩ : Addr).add j) = some u :=
  row_new' W (zRow z m) t W.heap.size _ rfl rfl

theorem over_one (z : Value) (xs : List Value) (k : Nat) (hk : k < xs.length) : (zRow [z] k ++ xs.drop k).set k z = zRow [z] (k + 1) ++ xs.drop (k + 1) := by
  have hl : (zRow [z] k).length = k := by rw [zRow_len]; simp
  rw [List.set_append_right _ _ (by omega), hl, Nat.sub_self, List.drop_eq_getElem_cons hk, List.set_cons_zero, zRow_snoc, List.append_assoc]
  rfl

def OwnB (v : Value) : Nat → Prop := fun k => v.ownBlock = some k
theorem Marks.keepN {w w' : World} {B : Nat} {e : TypeId} {z : List Value} {v : Value} {n : Nat} (h : Marks w B e z v n) (hk : Kept NoB w w') : Marks w' B e z v n := hk.owns h (fun _ _ x => x)

theorem BookAt.cell0 {w : World} {B ob : Nat} {vb vt vn : Value} {lb lt ln : List Value} (h : BookAt w B ob vb vt vn lb lt ln) : w.cell? ⟨ob, 0, none⟩ = some vb := by rw [cell_of_row _ _ _ _ _ _ h.blk]; rfl
theorem BookAt.blkKept {w w1 : World} {B ob : Nat} {vb vt vn : Value} {lb lt ln : List Value} {o : Obj} (h : BookAt w B ob vb vt vn lb lt ln) (hg : (w.alloc o).grownBy w1 vb.ownBlock) : w1.heap[ob]? = some (.cells #[vb, .slice none 0 0, vt, vn] 29 (0, 0)) := by
  have hk0 : Kept (fun k => vb.ownBlock = some k) w w1 := ((Kept.refl _ w).alloc o).grown hg (fun k hk _ => hk)
  exact hk0.heap h.blk (fun x => owns_ne h.ownb h.blk (by decide) ob x rfl)
theorem Kept.up {B : Nat} {a b : World} (h : Kept (UpB B) a b) : Kept (UpB B) a b := h
theorem BookAt.grewB {w w' : World} {B ob : Nat} {vb vt vn : Value} {lb lt ln : List Value} {z : List Value} {v : Value} {n : Nat} {o : Obj} (h : BookAt w B ob vb vt vn lb lt ln) (hv : Marks w B 5 z v n) (hfr : ∀ i (hi : i < lb.length), ∀ k, lb[i].ownBlock = some k → v.ownBlock ≠ some k)
    (hg : (w.alloc o).grownBy w' v.ownBlock) : BookAt w' B ob vb vt vn lb lt ln ∧ Kept (UpB B) w w' := by
  have hk : Kept (OwnB v) w w' := ((Kept.refl _ w).alloc o).grown hg (fun k hk _ => hk)
  refine ⟨?_, hk.mono (fun j _ hj => (hv.lt j hj).1)⟩
  exact h.keepT hk (t := 5) (fun k hk' => owns_block hv hk') (by decide) (fun _ i hi k hk' hx => hfr i hi k hk' hx) (fun e => by cases e) (fun e => by cases e)

set_option maxRecDepth 100000 in
set_option maxHeartbeats 16000000 in
theorem takeBytes_any (B ob : Nat) (vb vt vn : Value) (lb lt ln : List Value) (q : Nat) (v : Value) (n : Nat) (xs : List Value) (w : World) (h : BookAt w B ob vb vt vn lb lt ln) (hq : lb.length = 4 * q) (hq2 : q ≤ 1000)
    (hv : w.ownsRow B 5 1 v n xs) (hxo : ∀ k, k < n → ∃ y, xs[k]? = some (.int .u8 y)) (hfr : ∀ i (hi : i < lb.length), ∀ k, lb[i].ownBlock = some k → v.ownBlock ≠ some k) (hn : n ≤ 1000000) :
    Calls Tryd.prog 10 #[.pointer (some ⟨ob, 0, none⟩), v] w fun e w' => e = .returned (.tuple #[]) ∧ ∃ vb' x y z, BookAt w' B ob vb' vt vn (lb ++ [v, x, y, z]) lt ln ∧ Kept (UpB B) w w' := by
  obtain ⟨ao, cap, rfl⟩ := owns_shape hv
  obtain ⟨bao, bcap, rfl⟩ := owns_shape h.ownb
  have hxl : xs.length = n := by simpa using hv.1
  have c0 : w.cell? ⟨ob, 0, none⟩ = some (.slice bao lb.length bcap) := by rw [cell_of_row _ _ _ _ _ _ h.blk]; rfl
  rw [hq] at c0
  have H := hide h
  have HQ := hide hq
  have HV := hide hv
  have HXO := hide hxo
  have HFR := hide hfr
  have HXL := hide hxl
  clear h hq hv hxo hfr hxl
  go_enter Tryd.func10, Tryd.ntmps10
  go_wp2_with fail
  obtain ⟨M, hM⟩ : ∃ M : Int, M = 100 + (q : Int) % 150 := ⟨_, rfl⟩
  rw [← hM]
  have HZ : Hid (bz (4 * q) = [.int .u8 M]) := by
    unfold Hid bz
    rw [hM, show 4 * q / 4 = q by omega]
    simp
  clear hM
  go_loopw [5] (fun i wr => ∃ k : Nat, k ≤ n ∧ i = .int .i64 k ∧ wr.ownsRow B 5 1 (.slice ao n cap) n (zRow [.int .u8 M] k ++ xs.drop k) ∧ Kept (OwnB (.slice ao n cap)) w wr) (fun i _ => n - (intOf i).toNat)
  case atStart => exact ⟨0, by omega, rfl, by simpa [zRow] using HV.out, Kept.refl _ _⟩
  case round =>
    obtain ⟨k, hk, rfl, how, hkept⟩ := hrel
    by_cases hlt : k < n
    · obtain ⟨g, cap', hf, _, _⟩ := how.form (by omega)
      cases hf
      have hxl := HXL.out
      have d0 : ∃ y, wr.cell? ⟨g, k, none⟩ = some (.int .u8 y) := by
        obtain ⟨y, hy⟩ := HXO.out k hlt
        refine ⟨y, ?_⟩
        rw [how.cellAt k (by omega), List.getElem?_append_right (by rw [zRow_len]; simp), zRow_len, List.getElem?_drop]
        simpa using hy
      obtain ⟨y, d0⟩ := d0
      have df : wr.frozen? ⟨g, k, none⟩ = false := how.frozenAt k
      have HST := hide (how.stored k (.int .u8 M)).1
      rw [over_one _ xs k (by omega)] at HST
      have HOW := hide how
      clear how hxl
      go_wp2_with fail
      go_roundw
      case rel => exact ⟨k + 1, by omega, by go_num, HST.out, hkept.setCell ⟨g, k, none⟩ (fun _ => rfl) _⟩
      case measure => simp [intOf]; omega
    · obtain rfl : k = n := by omega
      have hv1 : Marks wr B 5 [.int .u8 M] (.slice ao k cap) k := by
        have h1 := how
        rw [List.drop_of_length_le (by rw [HXL.out]; omega), List.append_nil] at h1
        exact h1
      have hb1 : BookAt wr B ob (.slice bao lb.length bcap) vt vn lb lt ln := H.out.keepT hkept (t := 5) (fun j hj => owns_block HV.out hj) (by decide) (fun _ i hi j hj hx => HFR.out i hi j hj hx) (fun e => by cases e) (fun e => by cases e)
      have hu1 : Kept (UpB B) w wr := hkept.mono (fun j _ hj => (HV.out.lt j hj).1)
      have hsz : B ≤ wr.heap.size := Nat.le_trans H.out.lo (Nat.le_of_lt (Array.getElem?_eq_some_iff.1 hb1.blk).1)
      have HV1 := hide hv1
      have HB1 := hide (And.intro hb1 hu1)
      clear hv1 hb1 hu1 how hkept
      go_wp2_with (first | (at_builtin; refine wpList_append3 _ rfl (.tmp 28) (.tmp 30) 32 32 rfl B 5 (.int .u8 0) [.int .u8 M] 1 Tryd.underlying32 info5 rfl (Nat.succ_pos 0) _ k rfl (Marks.keepN HV1.out ((Kept.refl NoB _).alloc _)) (.slice (some ⟨wr.heap.size, 0, none⟩) 1 1) 1 rfl (Src.ofSlice _ Tryd.underlying32 _ 1 1 _ rfl (row_new' _ _ _ _ _ rfl rfl) (zRow_one _ rfl 1)) (by omega) (by unfold maxLen; omega) (by simp; omega) ?_; intro v1 w1 hx1 hall1 hg1 _; obtain ⟨ao1, cap1, rfl⟩ := owns_shape hx1; have hvv1 := hide (hall1 _ _ (Marks.keepN HV1.out ((Kept.refl NoB _).alloc _))); have hbb1 := hide (HB1.out.1.grewB HV1.out HFR.out hg1); have hss1 : B ≤ w1.heap.size := Nat.le_trans hsz (by have := hg1.size; simp at this; omega); have hxx1 := hide hx1; have haa1 := hide hall1; clear hx1 hall1 hg1) | (at_builtin; refine wpList_append3 _ rfl (.tmp 32) (.tmp 35) 32 32 rfl B 5 (.int .u8 0) [.int .u8 M] 1 Tryd.underlying32 info5 rfl (Nat.succ_pos 0) _ k rfl (Marks.keepN hvv1.out ((Kept.refl NoB _).alloc _)) (.slice (some ⟨w1.heap.size, 0, none⟩) 2 2) 2 rfl (Src.ofSlice _ Tryd.underlying32 _ 2 2 _ rfl (row_new' _ _ _ _ _ rfl rfl) (zRow_one _ rfl 2)) (by omega) (by unfold maxLen; omega) (by simp; omega) ?_; intro v2 w2 hx2 hall2 hg2 _; obtain ⟨ao2, cap2, rfl⟩ := owns_shape hx2; have hvv2 := hide (hall2 _ _ (Marks.keepN hvv1.out ((Kept.refl NoB _).alloc _))); have hbb2 := hide (hbb1.out.1.grewB hvv1.out HFR.out hg2); have hss2 : B ≤ w2.heap.size := Nat.le_trans hss1 (by have := hg2.size; simp at this; omega); have hxx2 := hide hx2; have haa2 := hide hall2; clear hx2 hall2 hg2) | (at_builtin; refine wpList_append3 _ rfl (.tmp 37) (.tmp 41) 32 32 rfl B 5 (.int .u8 0) [.int .u8 M] 1 Tryd.underlying32 info5 rfl (Nat.succ_pos 0) _ k rfl (Marks.keepN hvv2.out ((Kept.refl NoB _).alloc _)) (.slice (some ⟨w2.heap.size, 0, none⟩) 3 3) 3 rfl (Src.ofSlice _ Tryd.underlying32 _ 3 3 _ rfl (row_new' _ _ _ _ _ rfl rfl) (zRow_one _ rfl 3)) (by omega) (by unfold maxLen; omega) (by simp; omega) ?_; intro v3 w3 hx3 hall3 hg3 _; obtain ⟨ao3, cap3, rfl⟩ := owns_shape hx3; have hvv3 := hide (hall3 _ _ (Marks.keepN hvv2.out ((Kept.refl NoB _).alloc _))); have hbb3 := hide (hbb2.out.1.grewB hvv2.out HFR.out hg3); have hss3 : B ≤ w3.heap.size := Nat.le_trans hss2 (by have := hg3.size; simp at this; omega); have hxx3 := hide hx3; have haa3 := hide hall3; clear hx3 hall3 hg3; have e0 := hbb3.out.1.cell0; rw [HQ.out] at e0; have HOB := hide hbb3.out.1.ownb; rw [HQ.out] at HOB) | (at_builtin; refine wpList_append2 _ rfl (.tmp 47) (.tmp 52) 24 24 rfl B 32 (.slice none 0 0) 1 24 Tryd.underlying24 info32 rfl (.slice bao (4 * q) bcap) (4 * q) lb rfl (HOB.out.alloc _) (.slice (some ⟨w3.heap.size, 0, none⟩) 4 4) 4 [.slice ao k cap, .slice ao1 (k + 1) cap1, .slice ao2 (k + 2) cap2, .slice ao3 (k + 3) cap3] rfl (Src.ofSlice _ Tryd.underlying24 _ 4 4 _ rfl (row_new' _ _ _ _ _ rfl rfl) (by intro u hu; simp at hu; rcases hu with rfl | rfl | rfl | rfl <;> rfl)) (by omega) (by unfold maxLen; omega) (by simp; omega) ?_; intro vb4 w4 hown4 hold4 hg4 hl4; obtain ⟨ao4, cap4, rfl⟩ := owns_shape hown4; have ek := hbb3.out.1.blkKept (by rw [HQ.out]; exact hg4); have k0 := cell_of_row _ _ 0 _ _ _ ek; have kf := frozen_of_row _ _ 0 _ _ ek; simp at k0))
      go_end0
      refine ⟨rfl, .slice ao4 (4 * q + 4) cap4, .slice ao1 (k + 1) cap1, .slice ao2 (k + 2) cap2, .slice ao3 (k + 3) cap3, ?_⟩
      have hb3 := hbb3.out.1
      have m0 : Marks w3 B 5 [.int .u8 M] (.slice ao k cap) k := hvv3.out
      have m1 : Marks w3 B 5 [.int .u8 M] (.slice ao1 (k + 1) cap1) (k + 1) := haa3.out _ _ (Marks.keepN (haa2.out _ _ (Marks.keepN hxx1.out ((Kept.refl NoB _).alloc _))) ((Kept.refl NoB _).alloc _))
      have m2 : Marks w3 B 5 [.int .u8 M] (.slice ao2 (k + 2) cap2) (k + 2) := haa3.out _ _ (Marks.keepN hxx2.out ((Kept.refl NoB _).alloc _))
      have m3 : Marks w3 B 5 [.int .u8 M] (.slice ao3 (k + 3) cap3) (k + 3) := hxx3.out
      rw [← HZ.out] at m0 m1 m2 m3
      obtain ⟨r1, r2⟩ := hb3.pushB HQ.out m0 m1 m2 m3 (by rw [HQ.out]; exact hown4) (by rw [HQ.out]; exact hg4)
      exact ⟨r1, HB1.out.2.trans (hbb1.out.2.up.trans (hbb2.out.2.up.trans (hbb3.out.2.up.trans r2)))⟩
end Go.Proofs.YtidioioldlmciaaDoor
