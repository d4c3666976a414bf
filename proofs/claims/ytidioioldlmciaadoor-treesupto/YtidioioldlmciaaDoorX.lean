import Derived.Test.YtidioioldlmciaaDoorW
namespace Go.Proofs.YtidioioldlmciaaDoor
open Go.RowKit

/-- a buffer of bytes has grown: no other block is written -/
structure Grew (w w' : World) (B : Nat) (v v' : Value) (l : List UInt8) : Prop where
  own : w'.ownsRow B 5 1 v' l.length (byteL l)
  kept : Kept (OwnB v) w w'
  blk : ∀ k, v'.ownBlock = some k → v.ownBlock = some k ∨ w.heap.size ≤ k
theorem Grew.refl {w : World} {B : Nat} {v : Value} {l : List UInt8} (h : w.ownsRow B 5 1 v l.length (byteL l)) : Grew w w B v v l := ⟨h, Kept.refl _ _, fun _ hk => .inl hk⟩
theorem Grew.trans {w w1 w2 : World} {B : Nat} {v v1 v2 : Value} {l1 l2 : List UInt8} (h : Grew w w1 B v v1 l1) (k : Grew w1 w2 B v1 v2 l2) : Grew w w2 B v v2 l2 := by
  refine ⟨k.own, h.kept.trans' k.kept (fun i hi hv => ?_), fun i hi => ?_⟩
  · rcases h.blk i hv with h1 | h1
    · exact h1
    · omega
  · rcases k.blk i hi with h1 | h1
    · exact h.blk i h1
    · exact .inr (Nat.le_trans h.kept.size h1)
theorem Grew.alloc {w w1 : World} {B : Nat} {v v1 : Value} {l1 : List UInt8} (h : Grew w w1 B v v1 l1) (o : Obj) : Grew w (w1.alloc o) B v v1 l1 :=
  ⟨h.own.alloc o, h.kept.alloc o, h.blk⟩
theorem Grew.heap {w w1 : World} {B : Nat} {v v1 : Value} {l l1 : List UInt8} (h : Grew w w1 B v v1 l1) (hv : w.ownsRow B 5 1 v l.length (byteL l)) {b : Nat} {c : Array Value} {t : TypeId} (hb : w.heap[b]? = some (.cells c t (0, 0))) (ht : 5 ≠ t) : w1.heap[b]? = some (.cells c t (0, 0)) :=
  h.kept.heap hb (fun hx => owns_ne hv hb ht b hx rfl)
theorem Grew.keptN {w0 w w1 : World} {v v1 : Value} {l l1 : List UInt8} (h : Grew w w1 w0.heap.size v v1 l1) (hv : w.ownsRow w0.heap.size 5 1 v l.length (byteL l)) (hk : Kept NoB w0 w) : Kept NoB w0 w1 :=
  hk.trans' h.kept (fun i hi hx => by have := (hv.lt i hx).1; omega)
theorem Grew.step {w w1 w2 : World} {B : Nat} {v v1 v2 : Value} {l l1 l2 : List UInt8} (h : Grew w w1 B v v1 l1) {o : Obj} (hx : w2.ownsRow B 5 1 v2 l2.length (byteL l2)) (hg : (w1.alloc o).grownBy w2 v1.ownBlock) (hb : v2.ownBlock = v1.ownBlock ∨ v2.ownBlock = some (w1.alloc o).heap.size) (_e : l2 = l1 ++ l) : Grew w w2 B v v2 l2 := by
  refine h.trans ⟨hx, ((Kept.refl _ w1).alloc o).grown hg (fun k hk _ => hk), fun k hk => ?_⟩
  rcases hb with h1 | h1
  · left; rw [← h1]; exact hk
  · right
    rw [h1] at hk
    cases hk
    simp
theorem Grew.step0 {w w1 w2 : World} {B : Nat} {v v1 v2 : Value} {l l1 l2 : List UInt8} (h : Grew w w1 B v v1 l1) (hx : w2.ownsRow B 5 1 v2 l2.length (byteL l2)) (hg : w1.grownBy w2 v1.ownBlock) (hb : v2.ownBlock = v1.ownBlock ∨ v2.ownBlock = some w1.heap.size) (_e : l2 = l1 ++ l) : Grew w w2 B v v2 l2 := by
  refine h.trans ⟨hx, (Kept.refl _ w1).grown hg (fun k hk _ => hk), fun k hk => ?_⟩
  rcases hb with h1 | h1
  · left; rw [← h1]; exact hk
  · right
    rw [h1] at hk
    cases hk
    exact Nat.le_refl _
theorem Grew.base {w w1 : World} {B : Nat} {v v1 : Value} {l1 : List UInt8} (h : Grew w w1 B v v1 l1) (hB : B ≤ w.heap.size) : B ≤ w1.heap.size := Nat.le_trans hB h.kept.size

set_option maxRecDepth 100000 in
set_option maxHeartbeats 4000000 in
theorem appendNumber_any (B : Nat) (v : Value) (l : List UInt8) (n x : Nat) (w : World) (hv : w.ownsRow B 5 1 v l.length (byteL l)) (hB : B ≤ w.heap.size) (hl : l.length ≤ 1000000000) (hn : n ≤ 5) (_hx : x < 9223372036854775808) :
    Calls Tryd.prog 39 #[v, .int .i64 n, .int .i64 x] w fun e w' => ∃ v', e = .returned v' ∧ Grew w w' B v v' (l ++ numB x n) := by
  obtain ⟨ao, cap, rfl⟩ := owns_shape hv
  have HV := hide hv
  clear hv
  go_enter Tryd.func39, Tryd.ntmps39
  go_wp2_with fail
  go_loopw [0, 1] (fun u i wr => ∃ (k : Nat) (ao1 : Option Addr) (cap1 : Nat), k ≤ n ∧ i = .int .i64 ((n : Int) - k) ∧ u = .slice ao1 (l.length + k) cap1 ∧ Grew w wr B (.slice ao l.length cap) (.slice ao1 (l.length + k) cap1) (l ++ numTo x n k)) (fun _ i _ => (intOf i).toNat)
  case atStart => exact ⟨0, ao, cap, by omega, by simp, rfl, by simpa [numTo] using Grew.refl HV.out⟩
  case round =>
    obtain ⟨k, ao1, cap1, hk, rfl, rfl, hgr⟩ := hrel
    by_cases hlt : k < n
    · have hown := hgr.own
      rw [List.length_append, numTo_len] at hown
      have hbb := hgr.base hB
      have HO := hide hown
      have HGR := hide hgr
      have hd := digit_int x (n - 1 - k)
      rw [show n - 1 - k = n - k - 1 by omega] at hd
      have HD := hide hd
      clear hown hgr hd
      go_wp2_with (at_builtin; refine wpList_append2 _ rfl (.tmp 11) (.tmp 17) 32 32 rfl B 5 (.int .u8 0) 1 1 Tryd.underlying32 info5 rfl (.slice ao1 (l.length + k) cap1) (l.length + k) _ rfl (HO.out.alloc _) (.slice (some ⟨wr.heap.size, 0, none⟩) 1 1) 1 [.int .u8 ((x : Int) / 2 ^ (8 * (n - k - 1)) % 256)] rfl (Src.ofSlice _ Tryd.underlying32 _ 1 1 _ rfl (row_new' _ _ _ _ _ rfl rfl) (by intro u hu; simp at hu; rw [hu]; rfl)) (by omega) (by unfold maxLen; omega) (by simp; omega) ?_; intro v' w1 hown' hold' hg1 hl1; obtain ⟨ao2, cap2, rfl⟩ := owns_shape hown')
      go_roundw
      case rel =>
        refine ⟨k + 1, ao2, cap2, by omega, by go_num, rfl, ?_⟩
        have e : byteL (l ++ numTo x n k) ++ [Value.int .u8 ((x : Int) / 2 ^ (8 * (n - k - 1)) % 256)] = byteL (l ++ numTo x n (k + 1)) := by
          rw [numTo_succ, ← List.append_assoc, byteL_append (l ++ numTo x n k), HD.out, show n - 1 - k = n - k - 1 by omega]
          rfl
        have hlen : (l ++ numTo x n (k + 1)).length = l.length + k + 1 := by rw [List.length_append, numTo_len]; omega
        rw [e] at hown'
        exact HGR.out.step (l := [digitB x (n - 1 - k)]) (by rw [hlen]; exact hown') hg1 hl1 (by rw [numTo_succ, List.append_assoc])
      case measure => simp [intOf]; omega
    · obtain rfl : k = n := by omega
      go_wp2_with fail
      go_ret
      exact ⟨_, rfl, hgr⟩

set_option maxRecDepth 100000 in
set_option maxHeartbeats 4000000 in
theorem appendText_any (B : Nat) (v : Value) (l : List UInt8) (n : Nat) (t : ByteArray) (w : World) (hv : w.ownsRow B 5 1 v l.length (byteL l)) (hB : B ≤ w.heap.size) (hl : l.length ≤ 900000000) (hn : n ≤ 5) (ht : t.size ≤ 900000000) :
    Calls Tryd.prog 40 #[v, .int .i64 n, .string t] w fun e w' => ∃ v', e = .returned v' ∧ Grew w w' B v v' (l ++ numB t.size n ++ t.data.toList) := by
  obtain ⟨ao, cap, rfl⟩ := owns_shape hv
  have HV := hide hv
  clear hv
  go_enter Tryd.func40, Tryd.ntmps40
  go_wp2_with fail
  refine (appendNumber_any B (.slice ao l.length cap) l n t.size w HV.out hB (by omega) hn (by omega)).mono ?_
  rintro r w1 ⟨v1, rfl, hg1⟩
  have hown := hg1.own
  have hbb := hg1.base hB
  obtain ⟨ao1, cap1, rfl⟩ := owns_shape hown
  have HG := hide hg1
  have HO := hide hown
  have hlen : (l ++ numB t.size n).length ≤ l.length + 5 := by rw [List.length_append, numB_len]; omega
  obtain ⟨l1, hl1⟩ : ∃ l1, l1 = l ++ numB t.size n := ⟨_, rfl⟩
  rw [← hl1] at HG HO hlen ⊢
  have HL1 := hide hl1
  clear hown hg1 hl1
  have HTL := hide (Lib.size_eq t)
  go_wp2_with (at_builtin; refine wpList_append2 _ rfl (.tmp 11) (.tmp 12) 32 9 rfl B 5 (.int .u8 0) 1 1 Tryd.underlying32 info5 rfl (.slice ao1 l1.length cap1) l1.length _ rfl HO.out (.string t) t.size (byteCells t) rfl (Src.ofString _ Tryd.underlying9 t) (by omega) (by unfold maxLen; omega) (by omega) ?_; intro v' w2 hown' hold' hg2 hl2; obtain ⟨ao2, cap2, rfl⟩ := owns_shape hown')
  go_ret
  refine ⟨_, rfl, ?_⟩
  rw [← HL1.out]
  rw [byteCells_eq, ← byteL_append] at hown'
  exact HG.out.step0 (l := t.data.toList) (by rw [List.length_append, ← HTL.out]; exact hown') hg2 hl2 rfl

theorem appendNumber_int (B : Nat) (v : Value) (l : List UInt8) (n : Nat) (x : Int) (w : World) (hv : w.ownsRow B 5 1 v l.length (byteL l)) (hB : B ≤ w.heap.size) (hl : l.length ≤ 1000000000) (hn : n ≤ 5) (h0 : 0 ≤ x) (hx : x < 9223372036854775808) :
    Calls Tryd.prog 39 #[v, .int .i64 n, .int .i64 x] w fun e w' => ∃ v', e = .returned v' ∧ Grew w w' B v v' (l ++ numB x.toNat n) := by
  have := appendNumber_any B v l n x.toNat w hv hB hl hn (by omega)
  rw [show ((x.toNat : Nat) : Int) = x by omega] at this
  exact this
theorem Grew.up {w w1 : World} {B : Nat} {v v1 : Value} {l l1 : List UInt8} (h : Grew w w1 B v v1 l1) (hv : w.ownsRow B 5 1 v l.length (byteL l)) : Kept (UpB B) w w1 := h.kept.mono (fun i _ hx => (hv.lt i hx).1)

/-- where appendHead stands -/
structure HeadS (w : World) (B : Nat) (v : Value) (g : Nat) (c : Array Value) (wr : World) (u : Value) (l : List UInt8) : Prop where
  gr : Grew w wr B v u l
  box : wr.heap[g]? = some (.cells c 55 (0, 0))
  base : B ≤ wr.heap.size
theorem HeadS.next {w : World} {B : Nat} {v : Value} {g : Nat} {c : Array Value} {wr w2 : World} {u u2 : Value} {l l2 : List UInt8} (h : HeadS w B v g c wr u l) (k : Grew wr w2 B u u2 l2) : HeadS w B v g c w2 u2 l2 :=
  ⟨h.gr.trans k, k.heap h.gr.own h.box (by decide), k.base h.base⟩
theorem HeadS.alloc {w : World} {B : Nat} {v : Value} {g : Nat} {c : Array Value} {wr : World} {u : Value} {l : List UInt8} (h : HeadS w B v g c wr u l) (o : Obj) : HeadS w B v g c (wr.alloc o) u l :=
  ⟨h.gr.alloc o, ((Kept.refl NoB wr).alloc o).heapN h.box, Nat.le_trans h.base (by simp)⟩

set_option maxRecDepth 100000 in
set_option maxHeartbeats 8000000 in
theorem appendHead_any (B : Nat) (v : Value) (l : List UInt8) (e : En) (ve : Value) (w : World) (hv : w.ownsRow B 5 1 v l.length (byteL l)) (hB : B ≤ w.heap.size) (hl : l.length ≤ 100000000)
    (hN : ∀ wx, Kept (UpB B) w wx → NotesAt wx ve e.notes) (hok : entryOk e = true) (hc : e.content.size ≤ 100000000) :
    Calls Tryd.prog 28 #[v, enVal e ve] w fun r w' => ∃ v', r = .returned v' ∧ Grew w w' B v v' (l ++ (headBytes e ++ e.notes.flatMap ntBytes ++ numB e.content.size 4)) := by
  obtain ⟨k0, k2, m0, m2, t0, t2, hp, hnn⟩ := entry_bounds hok
  have HNB := hide (fun j hj => note_bounds hok j hj)
  have HN := hide hN
  have HV := hide hv
  obtain ⟨nao, ncap, rfl⟩ := notes_len (hN w (Kept.refl _ _))
  clear hok hN hv
  unfold enVal
  obtain ⟨g, hg⟩ : ∃ g, g = w.heap.size := ⟨_, rfl⟩
  go_enter Tryd.func28, Tryd.ntmps28
  go_wp2_with fail
  generalize hC : (#[.string e.path, .int .i64 e.kind, .int .i64 e.mode, .int .i64 e.time, .slice nao e.notes.length ncap, .string e.content] : Array Value) = C
  have hS0 : HeadS w B v g C (w.alloc (.cells C 55)) v l := ⟨(Grew.refl HV.out).alloc _, by rw [hg]; exact heap_alloc_new w _, Nat.le_trans hB (by simp)⟩
  rw [← hg]
  have HC := hide hC
  have HG := hide hg
  generalize w.alloc (.cells C 55) = W1 at *
  clear hC hg
  replace hS0 := hide hS0
  refine (appendNumber_int B v l 1 e.kind _ hS0.out.gr.own hS0.out.base (by omega) (by omega) k0 (by omega)).mono ?_
  rintro r w1 ⟨v1, rfl, hg1⟩
  obtain ⟨l1, hl1⟩ : ∃ x, x = l ++ numB e.kind.toNat 1 := ⟨_, rfl⟩
  rw [← hl1] at hg1
  have hb1 : l1.length ≤ l.length + 1 := by rw [hl1]; simp only [List.length_append, numB_len]; omega
  have hS1 := hide (hS0.out.next hg1)
  have HL1 := hide hl1
  clear hg1 hl1
  have hbx := hS1.out.box
  rw [← HC.out] at hbx
  obtain ⟨c0, c1, c2, c3, c4, c5, _⟩ := box_cells hbx
  clear hbx
  go_wp2_with fail
  refine (appendText_any B v1 l1 1 e.path _ hS1.out.gr.own hS1.out.base (by omega) (by omega) (by omega)).mono ?_
  rintro r w2 ⟨v2, rfl, hg2⟩
  obtain ⟨l2, hl2⟩ : ∃ x, x = l1 ++ numB e.path.size 1 ++ e.path.data.toList := ⟨_, rfl⟩
  rw [← hl2] at hg2
  have hb2 : l2.length ≤ l.length + 66 := by rw [hl2]; simp only [List.length_append, numB_len, ← Lib.size_eq]; omega
  have hS2 := hide (hS1.out.next hg2)
  have HL2 := hide hl2
  clear hg2 hl2
  clear c0 c1 c2 c3 c4 c5
  have hbx := hS2.out.box
  rw [← HC.out] at hbx
  obtain ⟨c0, c1, c2, c3, c4, c5, _⟩ := box_cells hbx
  clear hbx
  go_wp2_with fail
  refine (appendNumber_int B v2 l2 2 e.mode _ hS2.out.gr.own hS2.out.base (by omega) (by omega) m0 (by omega)).mono ?_
  rintro r w3 ⟨v3, rfl, hg3⟩
  obtain ⟨l3, hl3⟩ : ∃ x, x = l2 ++ numB e.mode.toNat 2 := ⟨_, rfl⟩
  rw [← hl3] at hg3
  have hb3 : l3.length ≤ l.length + 68 := by rw [hl3]; simp only [List.length_append, numB_len]; omega
  have hS3 := hide (hS2.out.next hg3)
  have HL3 := hide hl3
  clear hg3 hl3
  clear c0 c1 c2 c3 c4 c5
  have hbx := hS3.out.box
  rw [← HC.out] at hbx
  obtain ⟨c0, c1, c2, c3, c4, c5, _⟩ := box_cells hbx
  clear hbx
  go_wp2_with fail
  refine (appendNumber_int B v3 l3 5 e.time _ hS3.out.gr.own hS3.out.base (by omega) (by omega) t0 (by omega)).mono ?_
  rintro r w4 ⟨v4, rfl, hg4⟩
  obtain ⟨l4, hl4⟩ : ∃ x, x = l3 ++ numB e.time.toNat 5 := ⟨_, rfl⟩
  rw [← hl4] at hg4
  have hb4 : l4.length ≤ l.length + 73 := by rw [hl4]; simp only [List.length_append, numB_len]; omega
  have hS4 := hide (hS3.out.next hg4)
  have HL4 := hide hl4
  clear hg4 hl4
  clear c0 c1 c2 c3 c4 c5
  have hbx := hS4.out.box
  rw [← HC.out] at hbx
  obtain ⟨c0, c1, c2, c3, c4, c5, _⟩ := box_cells hbx
  clear hbx
  go_wp2_with fail
  refine (appendNumber_any B v4 l4 1 e.notes.length _ hS4.out.gr.own hS4.out.base (by omega) (by omega) (by omega)).mono ?_
  rintro r w5 ⟨v5, rfl, hg5⟩
  obtain ⟨l5, hl5⟩ : ∃ x, x = l4 ++ numB e.notes.length 1 := ⟨_, rfl⟩
  rw [← hl5] at hg5
  have hb5 : l5.length ≤ l.length + 74 := by rw [hl5]; simp only [List.length_append, numB_len]; omega
  have hS5 := hide (hS4.out.next hg5)
  have HL5 := hide hl5
  clear hg5 hl5
  clear c0 c1 c2 c3 c4 c5
  have hbx := hS5.out.box
  rw [← HC.out] at hbx
  obtain ⟨c0, c1, c2, c3, c4, c5, _⟩ := box_cells hbx
  clear hbx
  go_wp2_with fail
  clear c0 c1 c2 c3 c4 c5
  go_loopw [0, 31] (fun u i wr => ∃ (k : Nat) (lk : List UInt8), k ≤ e.notes.length ∧ i = .int .i64 k ∧ Hid (lk = l5 ++ (e.notes.take k).flatMap ntBytes) ∧ lk.length ≤ l.length + 74 + 82 * k ∧ Hid (HeadS w B v g C wr u lk)) (fun _ i _ => e.notes.length - (intOf i).toNat)
  case atStart => exact ⟨0, l5, by omega, rfl, by simp [Hid], by omega, hS5⟩
  case round =>
    obtain ⟨k, lk, hk, rfl, hlk, hlkl, hSk⟩ := hrel
    have hbx := hSk.out.box
    rw [← HC.out] at hbx
    obtain ⟨c0, c1, c2, c3, c4, c5, _⟩ := box_cells hbx
    clear hbx
    by_cases hlt : k < e.notes.length
    · obtain ⟨nb1, nb2⟩ := HNB.out k hlt
      obtain ⟨b, o, rfl, x0, x1⟩ := notes_at (HN.out wr (hSk.out.gr.up HV.out)) k hlt
      have hfl : Hid ((e.notes.take (k + 1)).flatMap ntBytes = (e.notes.take k).flatMap ntBytes ++ ntBytes e.notes[k]) := by
        unfold Hid
        rw [List.take_succ_eq_append_getElem hlt, List.flatMap_append]
        simp
      generalize e.notes[k] = nt at *
      go_wp2_with fail
      obtain ⟨gn, hgn⟩ : ∃ gn, gn = wr.heap.size := ⟨_, rfl⟩
      have hSa := hide (hSk.out.alloc (.cells #[.string nt.name, .string nt.text] 59))
      have hNb := hide (heap_alloc_new wr (.cells #[.string nt.name, .string nt.text] 59))
      rw [← hgn] at hNb ⊢
      clear hgn
      generalize wr.alloc (.cells #[.string nt.name, .string nt.text] 59) = wa at *
      refine (appendText_any B _ lk 1 nt.name wa hSa.out.gr.own hSa.out.base (by omega) (by omega) (by omega)).mono ?_
      rintro r wb ⟨ub, rfl, hgb⟩
      have hNb2 := hgb.heap hSa.out.gr.own hNb.out (by decide)
      have y1 := cell_of_row _ _ 1 _ _ _ hNb2
      simp at y1
      have hSb := hide (hSa.out.next hgb)
      clear hgb hNb2
      obtain ⟨lb, hlb⟩ : ∃ x, x = lk ++ numB nt.name.size 1 ++ nt.name.data.toList := ⟨_, rfl⟩
      rw [← hlb] at hSb
      have hlbl : lb.length ≤ lk.length + 17 := by rw [hlb]; simp only [List.length_append, numB_len, ← Lib.size_eq]; omega
      have HLB := hide hlb
      clear hlb
      go_wp2_with fail
      refine (appendText_any B ub lb 1 nt.text wb hSb.out.gr.own hSb.out.base (by omega) (by omega) (by omega)).mono ?_
      rintro r wc ⟨uc, rfl, hgc⟩
      have hSc := hide (hSb.out.next hgc)
      clear hgc
      obtain ⟨lc, hlc⟩ : ∃ x, x = lb ++ numB nt.text.size 1 ++ nt.text.data.toList := ⟨_, rfl⟩
      rw [← hlc] at hSc
      have hlcl : lc.length ≤ lb.length + 65 := by rw [hlc]; simp only [List.length_append, numB_len, ← Lib.size_eq]; omega
      have HLC := hide hlc
      clear hlc
      go_wp2_with fail
      go_roundw
      case rel =>
        refine ⟨k + 1, lc, by omega, by go_num, hide ?_, by omega, hSc⟩
        rw [HLC.out, HLB.out, hlk.out, hfl.out]
        simp [ntBytes]
      case measure => simp [intOf]; omega
    · have HKK : Hid (k = e.notes.length) := hide (by omega)
      go_wp2_with fail
      refine (appendNumber_any B _ lk 4 e.content.size wr hSk.out.gr.own hSk.out.base (by omega) (by omega) (by omega)).mono ?_
      rintro r wz ⟨vz, rfl, hgz⟩
      have HSZ := hide (hSk.out.next hgz).gr
      clear hgz
      have HEQ : Hid (lk ++ numB e.content.size 4 = l ++ (headBytes e ++ e.notes.flatMap ntBytes ++ numB e.content.size 4)) := by
        unfold Hid headBytes
        rw [hlk.out, HL5.out, HL4.out, HL3.out, HL2.out, HL1.out, HKK.out, List.take_length]
        simp only [List.append_assoc]
      rw [HEQ.out] at HSZ
      clear hSk hlk HL1 HL2 HL3 HL4 HL5 hS0 hS1 hS2 hS3 hS4 hS5 HEQ
      go_wp2_with fail
      go_ret
      exact ⟨_, rfl, HSZ.out⟩
end Go.Proofs.YtidioioldlmciaaDoor
