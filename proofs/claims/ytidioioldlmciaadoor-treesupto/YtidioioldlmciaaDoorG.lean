import Derived.Test.YtidioioldlmciaaDoorF
import Derived.Deep.RegionWith
namespace Go.Proofs.YtidioioldlmciaaDoor
open Go.RowKit

/-- a world in which nothing of w0's blocks has turned -/
structure KW (w0 : World) where
  w : World
  h : Kept NoB w0 w

theorem wp_region_kw {P : Program} {id : Nat} {Q : Exit → Act → World → Prop} {a : Act} {w : World} {l : List Oper} (hm : P.follows .mixedOrders = true) (hB : Region.lexB .any l.toArray = true)
    (h : wpQuiet P l.toArray (fun w' => ∃ x : KW w, w' = x.w) (fun a' => ∀ w', (∃ x : KW w, w' = x.w) → Q .normal a' w') l a) : (Code.region id l.toArray true).wp P Q a w :=
  wp_region_quiet (C := fun w' => ∃ x : KW w, w' = x.w) hm hB ⟨⟨{ w with drawn := w.drawn + 1 }, ⟨rfl, rfl, rfl, Nat.le_refl _, fun _ _ _ => rfl⟩⟩, rfl⟩ (by simpa using h)

theorem KW.ne (w0 : World) : Nonempty (KW w0) := ⟨⟨w0, Kept.refl _ _⟩⟩
theorem KW.cell {w0 : World} {p : Addr} {v : Value} (hp : w0.cell? p = some v) : ∀ x : KW w0, x.w.cell? p = some v := fun x => x.h.cellN hp
theorem calls_kw {P : Program} {f : FuncId} {args : Array Value} {w0 : World} {x : KW w0} {v : Value} (h : Calls P f args x.w fun e w' => e = .returned v ∧ Kept NoB x.w w') :
    Calls P f args x.w fun e w'' => e = .returned v ∧ ∃ y : KW w0, w'' = y.w :=
  h.mono fun _ w' ⟨he, hk⟩ => ⟨he, ⟨w', x.h.trans hk⟩, rfl⟩

theorem U_int (v : Int) (n : Nat) (w : World) (h0 : 0 ≤ v) (hv : v < 1099511627776) (hn : 1 ≤ n) (hn8 : n ≤ 5) :
    Calls Tryd.prog 20 #[.int .i64 v, .int .i64 n] w fun e w' => e = .returned (.string ⟨(numB v.toNat n).toArray⟩) ∧ Kept NoB w w' := by
  obtain ⟨k, rfl⟩ := Int.eq_ofNat_of_zero_le h0
  exact U_any k n w (by omega) hn hn8

theorem U1 (v : Int) (w : World) (h0 : 0 ≤ v) (hv : v < 1099511627776) : Calls Tryd.prog 20 #[.int .i64 v, .int .i64 1] w fun e w' => e = .returned (.string ⟨(numB v.toNat 1).toArray⟩) ∧ Kept NoB w w' := U_int v 1 w h0 hv (by decide) (by decide)
theorem U2 (v : Int) (w : World) (h0 : 0 ≤ v) (hv : v < 1099511627776) : Calls Tryd.prog 20 #[.int .i64 v, .int .i64 2] w fun e w' => e = .returned (.string ⟨(numB v.toNat 2).toArray⟩) ∧ Kept NoB w w' := U_int v 2 w h0 hv (by decide) (by decide)
theorem U4 (v : Int) (w : World) (h0 : 0 ≤ v) (hv : v < 1099511627776) : Calls Tryd.prog 20 #[.int .i64 v, .int .i64 4] w fun e w' => e = .returned (.string ⟨(numB v.toNat 4).toArray⟩) ∧ Kept NoB w w' := U_int v 4 w h0 hv (by decide) (by decide)
theorem U5 (v : Int) (w : World) (h0 : 0 ≤ v) (hv : v < 1099511627776) : Calls Tryd.prog 20 #[.int .i64 v, .int .i64 5] w fun e w' => e = .returned (.string ⟨(numB v.toNat 5).toArray⟩) ∧ Kept NoB w w' := U_int v 5 w h0 hv (by decide) (by decide)

def ntBytes (n : Nt) : List UInt8 := numB n.name.size 1 ++ n.name.data.toList ++ numB n.text.size 1 ++ n.text.data.toList
def headBytes (e : En) : List UInt8 := numB e.kind.toNat 1 ++ numB e.path.size 1 ++ e.path.data.toList ++ numB e.mode.toNat 2 ++ numB e.time.toNat 5 ++ numB e.notes.length 1
def enBytes (e : En) : List UInt8 := headBytes e ++ e.notes.flatMap ntBytes ++ numB e.content.size 4 ++ e.content.data.toList
def streamB (es : List En) : List UInt8 := es.flatMap enBytes

theorem isTree_at {es : List En} (h : isTreeB es = true) (k : Nat) : (hk : k < es.length) → treeAt es k = true := by
  intro hk
  unfold isTreeB at h
  rw [List.all_eq_true] at h
  exact h k (List.mem_range.2 hk)
theorem entry_bounds {e : En} (h : entryOk e = true) : 0 ≤ e.kind ∧ e.kind ≤ 2 ∧ 0 ≤ e.mode ∧ e.mode ≤ 4095 ∧ 0 ≤ e.time ∧ e.time ≤ 1099511627775 ∧ e.path.size ≤ 64 ∧ e.notes.length ≤ 4 := by
  unfold entryOk at h
  simp only [Bool.and_eq_true, decide_eq_true_eq] at h
  obtain ⟨⟨⟨⟨hp, hn⟩, h1, h2⟩, h3, h4⟩, h5⟩ := h
  have hp2 : e.path.size ≤ 64 := by
    unfold okPath at hp
    simp only [Bool.and_eq_true, decide_eq_true_eq] at hp
    have := hp.2
    rw [Array.length_toList] at this
    exact this
  have hn2 : e.notes.length ≤ 4 := by
    unfold notesOk at hn
    simp only [Bool.and_eq_true, decide_eq_true_eq] at hn
    exact hn.2
  have hk : 0 ≤ e.kind ∧ e.kind ≤ 2 := by
    unfold kindOk at h5
    split at h5
    · omega
    · split at h5
      · omega
      · split at h5
        · omega
        · cases h5
  exact ⟨hk.1, hk.2, h1, h2, h3, h4, hp2, hn2⟩

theorem note_bounds {e : En} (h : entryOk e = true) (j : Nat) (hj : j < e.notes.length) : e.notes[j].name.size ≤ 16 ∧ e.notes[j].text.size ≤ 64 := by
  unfold entryOk at h
  simp only [Bool.and_eq_true, decide_eq_true_eq] at h
  obtain ⟨⟨⟨⟨hp, hn⟩, h1, h2⟩, h3, h4⟩, h5⟩ := h
  unfold notesOk at hn
  simp only [Bool.and_eq_true, List.all_eq_true] at hn
  have := hn.1 j (List.mem_range.2 hj)
  unfold nOk at this
  rw [List.getElem?_eq_getElem hj] at this
  simp only [Bool.and_eq_true] at this
  have h6 := this.1
  unfold noteOk at h6
  simp only [Bool.and_eq_true, decide_eq_true_eq] at h6
  exact ⟨h6.1.2, h6.2⟩
theorem two_set {w : World} {b : Nat} {u0 u1 : Value} (h0 : w.cell? ⟨b, 0, none⟩ = some u0) (h1 : w.cell? ⟨b, 1, none⟩ = some u1) (X Y : Value) :
    ((w.setCell ⟨b, 0, none⟩ X).setCell ⟨b, 1, none⟩ Y).cell? ⟨b, 0, none⟩ = some X ∧ ((w.setCell ⟨b, 0, none⟩ X).setCell ⟨b, 1, none⟩ Y).cell? ⟨b, 1, none⟩ = some Y := by
  refine ⟨?_, ?_⟩
  · rw [World.cell?_setCell_other _ _ _ _ (by simp), World.cell?_setCell_same _ _ _ h0]
  · exact World.cell?_setCell_same _ _ _ (u := u1) (by rw [World.cell?_setCell_other _ _ _ _ (by simp)]; exact h1)
theorem bapp (x : List UInt8) (p : ByteArray) : (⟨x.toArray⟩ : ByteArray) ++ p = ⟨(x ++ p.data.toList).toArray⟩ := by
  have := ByteArray.mk_append_mk x p.data.toList
  simpa using this
theorem head_str (e : En) : (⟨(numB e.kind.toNat 1).toArray⟩ : ByteArray) ++ ⟨(numB e.path.size 1).toArray⟩ ++ e.path ++ ⟨(numB e.mode.toNat 2).toArray⟩ ++ ⟨(numB e.time.toNat 5).toArray⟩ ++ ⟨(numB e.notes.length 1).toArray⟩ = ⟨(headBytes e).toArray⟩ := by
  rw [ByteArray.mk_append_mk, bapp, ByteArray.mk_append_mk, ByteArray.mk_append_mk, ByteArray.mk_append_mk]; rfl
theorem note_str (l : List UInt8) (n : Nt) : (⟨l.toArray⟩ : ByteArray) ++ ⟨(numB n.name.size 1).toArray⟩ ++ n.name ++ ⟨(numB n.text.size 1).toArray⟩ ++ n.text = ⟨(l ++ ntBytes n).toArray⟩ := by
  rw [ByteArray.mk_append_mk, bapp, ByteArray.mk_append_mk, bapp]
  unfold ntBytes
  simp [List.append_assoc]
theorem cont_str (o s : List UInt8) (e : En) : (⟨o.toArray⟩ : ByteArray) ++ ⟨s.toArray⟩ ++ ⟨(numB e.content.size 4).toArray⟩ ++ e.content = ⟨(o ++ (s ++ numB e.content.size 4 ++ e.content.data.toList)).toArray⟩ := by
  rw [ByteArray.mk_append_mk, ByteArray.mk_append_mk, bapp]
  simp [List.append_assoc]
theorem stream_snoc (zs : List (En × Value)) (k : Nat) (hk : k < zs.length) : streamB ((zs.take (k + 1)).map (·.1)) = streamB ((zs.take k).map (·.1)) ++ enBytes zs[k].1 := by
  rw [List.take_succ_eq_append_getElem hk, List.map_append]
  unfold streamB
  rw [List.flatMap_append]
  simp only [List.map_cons, List.map_nil, List.flatMap_cons, List.flatMap_nil, List.append_nil]
theorem stream_le (zs : List (En × Value)) (k : Nat) (hk : k < zs.length) : (streamB ((zs.take k).map (·.1))).length + (enBytes zs[k].1).length ≤ (streamB (zs.map (·.1))).length := by
  rw [← List.length_append, ← stream_snoc zs k hk]
  conv => rhs; rw [← List.take_append_drop (k + 1) zs, List.map_append]
  unfold streamB
  rw [List.flatMap_append, List.length_append]
  omega
theorem en_len (e : En) (j : Nat) : (headBytes e ++ (e.notes.take j).flatMap ntBytes).length + e.content.size ≤ (enBytes e).length := by
  unfold enBytes
  conv => rhs; rw [← List.take_append_drop j e.notes]
  have : e.content.data.toList.length = e.content.size := by rw [Array.length_toList]; rfl
  simp only [List.flatMap_append, List.length_append, this]
  omega
theorem note_len (e : En) (j : Nat) (hj : j < e.notes.length) : (headBytes e ++ (e.notes.take j).flatMap ntBytes).length + (e.notes[j].name.size + e.notes[j].text.size) ≤ (enBytes e).length := by
  have h := en_len e (j + 1)
  rw [List.take_succ_eq_append_getElem hj] at h
  have h1 : e.notes[j].name.data.toList.length = e.notes[j].name.size := by rw [Array.length_toList]; rfl
  have h2 : e.notes[j].text.data.toList.length = e.notes[j].text.size := by rw [Array.length_toList]; rfl
  simp only [List.flatMap_append, List.flatMap_cons, List.flatMap_nil, List.append_nil, List.length_append, ntBytes, h1, h2] at h ⊢
  omega

set_option maxRecDepth 100000 in
set_option maxHeartbeats 8000000 in
theorem Stream_ref (zs : List (En × Value)) (v : Value) (w : World) (ha : EntsAt w v zs) (hla : zs.length ≤ 2000000)
    (hb : ∀ z ∈ zs, z.1.path.size ≤ 2000000 ∧ z.1.notes.length ≤ 2000000 ∧ z.1.content.size ≤ 2000000) (hT : (streamB (zs.map (·.1))).length ≤ 1000000000) (hok : isTreeB (zs.map (·.1)) = true) :
    Calls Tryd.prog 7 #[v] w fun e w' => e = .returned (if (streamB (zs.map (·.1))).length > 65536 then .tuple #[.string ⟨#[]⟩, .agg #[.int .i64 7, .string ⟨#[]⟩]] else .tuple #[.string ⟨(streamB (zs.map (·.1))).toArray⟩, .agg #[.int .i64 0, .string ⟨#[]⟩]]) ∧ Kept NoB w w' := by
  obtain ⟨ao, cap, rfl, hc⟩ := CellsAt.shape ha.1
  have HA := hide ha
  clear ha
  have HB := hide hb
  clear hb
  have HT := hide hT
  clear hT
  obtain ⟨R, hR⟩ : ∃ R, R = streamB (zs.map (·.1)) := ⟨_, rfl⟩
  rw [← hR]
  have HR := hide hR
  clear hR
  go_enter Tryd.func7, Tryd.ntmps7
  go_wp2_with (go_at_call 19; refine (IsTree_any zs _ _ (HA.out.keptN ((Kept.refl NoB w).alloc _)) hla HB.out).mono ?_; rintro r w1 ⟨rfl, hk1⟩)
  go_loopw [5, 6] (fun o i wr => ∃ (k : Nat) (O : List UInt8), k ≤ zs.length ∧ i = .int .i64 k ∧ Hid (O = streamB ((zs.take k).map (·.1))) ∧ o = .string ⟨O.toArray⟩ ∧ Kept NoB (w.alloc (.cells #[.int .i64 0, .string ⟨#[]⟩] 38)) wr) (fun _ i _ => zs.length - (intOf i).toNat)
  case atStart => exact ⟨0, [], by omega, rfl, rfl, rfl, hk1⟩
  case round =>
    obtain ⟨k, O, hka, rfl, hO, rfl, hkept⟩ := hrel
    by_cases h1 : k < zs.length
    · obtain ⟨b, o, rfl, hcell⟩ := ents_at (HA.out.keptN (((Kept.refl NoB w).alloc _).trans' hkept (fun _ _ h => h))) k h1
      have hnk := (HA.out.keptN (((Kept.refl NoB w).alloc _).trans' hkept (fun _ _ h => h))).2 zs[k] (List.getElem_mem h1)
      obtain ⟨no, ncap, hnv, hnc⟩ := CellsAt.shape hnk
      have HNK := hide hnk
      clear hnk
      have c0 := hcell 0 (by decide)
      have c1 := hcell 1 (by decide)
      have c2 := hcell 2 (by decide)
      have c3 := hcell 3 (by decide)
      have c4 := hcell 4 (by decide)
      have c5 := hcell 5 (by decide)
      simp [enCells] at c0 c1 c2 c3 c4 c5
      rw [hnv] at c4
      clear hcell
      have HNV := hide hnv
      clear hnv
      have hW := fun j => cell_of_row _ _ j _ _ _ (heap_alloc_new wr (.cells #[.string zs[k].1.path, .int .i64 zs[k].1.kind, .int .i64 zs[k].1.mode, .int .i64 zs[k].1.time, .slice no zs[k].1.notes.length ncap, .string zs[k].1.content] 55))
      have hne := KW.ne (wr.alloc (.cells #[.string zs[k].1.path, .int .i64 zs[k].1.kind, .int .i64 zs[k].1.mode, .int .i64 zs[k].1.time, .slice no zs[k].1.notes.length ncap, .string zs[k].1.content] 55))
      have x0 := KW.cell (hW 0)
      have x1 := KW.cell (hW 1)
      have x2 := KW.cell (hW 2)
      have x3 := KW.cell (hW 3)
      have x4 := KW.cell (hW 4)
      have y4 := hW 4
      have y5 := hW 5
      simp only [List.getElem?_toArray, List.getElem?_cons_succ, List.getElem?_cons_zero] at y4 y5
      have HY4 := hide y4
      have HY5 := hide y5
      have HWR : Hid (Kept NoB wr (wr.alloc (.cells #[.string zs[k].1.path, .int .i64 zs[k].1.kind, .int .i64 zs[k].1.mode, .int .i64 zs[k].1.time, .slice no zs[k].1.notes.length ncap, .string zs[k].1.content] 55))) := (Kept.refl NoB wr).alloc _
      clear hW y4 y5
      have hek := treeAt_entry zs k h1 (isTree_at hok k (by simpa using h1))
      obtain ⟨hkd0, hkd1, hmd0, hmd1, htm0, htm1, hpz, hnl⟩ := entry_bounds hek
      clear hek
      have hnb : ∀ v n, (numB v n).length = n := numB_len
      go_wp2_with fail
      refine wp_region_kw (by kernel_rfl) (by kernel_rfl) ?_
      repeat (any_goals (go_big_quiet_step (first | (go_at_call_of 20 (Value.int IntKind.i64 (1 : Int)); exact calls_kw (U1 _ _ (by omega) (by omega))) | (go_at_call_of 20 (Value.int IntKind.i64 (2 : Int)); exact calls_kw (U2 _ _ (by omega) (by omega))) | (go_at_call_of 20 (Value.int IntKind.i64 (5 : Int)); exact calls_kw (U5 _ _ (by omega) (by omega))))))
      refine wpQuiet_nil ?_
      intro _ hw'
      obtain ⟨xq, hw''⟩ := hw'
      subst hw''
      rw [head_str]
      clear x0 x1 x2 x3 x4 hkd0 hkd1 hmd0 hmd1 htm0 htm1 hne c0 c1 c2 c3 c4 c5
      have HSL := hide (stream_le zs k h1)
      have hsl : O.length + (enBytes zs[k].1).length ≤ 1000000000 := by rw [hO.out]; exact Nat.le_trans HSL.out HT.out
      generalize hW1 : wr.alloc (.cells #[.string zs[k].1.path, .int .i64 zs[k].1.kind, .int .i64 zs[k].1.mode, .int .i64 zs[k].1.time, .slice no zs[k].1.notes.length ncap, .string zs[k].1.content] 55) = W1 at *
      have HW1 := hide hW1
      clear hW1
      go_wp2_with fail
      go_loopw [8, 9] (fun s i w2 => ∃ (j : Nat) (S : List UInt8), j ≤ zs[k].1.notes.length ∧ i = .int .i64 j ∧ Hid (S = headBytes zs[k].1 ++ (zs[k].1.notes.take j).flatMap ntBytes) ∧ s = .string ⟨S.toArray⟩ ∧ Kept NoB W1 w2) (fun _ i _ => zs[k].1.notes.length - (intOf i).toNat)
      case atStart => exact ⟨0, headBytes zs[k].1, by omega, rfl, hide (by simp), rfl, xq.h⟩
      case round =>
        obtain ⟨j, S, hja, rfl, hS, rfl, hkj⟩ := hrel
        rename World => w2
        have hkw := HWR.out.trans hkj
        have z4 := hkj.cellN HY4.out
        by_cases h2 : j < zs[k].1.notes.length
        · have hnt := CellsAt.keptN HNK.out (by decide) hkw
          rw [HNV.out] at hnt
          obtain ⟨nb, nof, rfl, n0, n1⟩ := notes_at hnt j h2
          clear hnt
          have hln := note_len zs[k].1 j h2
          rw [← hS.out] at hln
          have hnl' := note_bounds (treeAt_entry zs k h1 (isTree_at hok k (by simpa using h1))) j h2
          have hW2 := fun i => cell_of_row _ _ i _ _ _ (heap_alloc_new w2 (.cells #[.string zs[k].1.notes[j].name, .string zs[k].1.notes[j].text] 59))
          have hne := KW.ne (w2.alloc (.cells #[.string zs[k].1.notes[j].name, .string zs[k].1.notes[j].text] 59))
          have x0 := KW.cell (hW2 0)
          have x1 := KW.cell (hW2 1)
          clear hW2
          go_wp2_with fail
          refine wp_region_kw (by kernel_rfl) (by kernel_rfl) ?_
          repeat (any_goals (go_big_quiet_step (first | (go_at_call_of 20 (Value.int IntKind.i64 (1 : Int)); exact calls_kw (U1 _ _ (by omega) (by omega))))))
          refine wpQuiet_nil ?_
          intro _ hw'
          obtain ⟨xr, hw''⟩ := hw'
          subst hw''
          rw [note_str]
          clear x0 x1 hne n0 n1
          go_wp2_with fail
          go_roundw
          case rel =>
            refine ⟨j + 1, S ++ ntBytes zs[k].1.notes[j], by omega, by go_num, hide ?_, rfl, (hkj.alloc _).trans' xr.h (fun _ _ h => h)⟩
            rw [hS.out, List.take_succ_eq_append_getElem h2, List.flatMap_append, List.append_assoc]
            simp only [List.flatMap_cons, List.flatMap_nil, List.append_nil]
          case measure => simp [intOf]; omega
        · have hln := en_len zs[k].1 j
          rw [← hS.out] at hln
          have z5 := hkj.cellN HY5.out
          have hne := KW.ne w2
          have x5 := KW.cell z5
          have hcb := (HB.out zs[k] (List.getElem_mem h1)).2.2
          go_wp2_with fail
          refine wp_region_kw (by kernel_rfl) (by kernel_rfl) ?_
          repeat (any_goals (go_big_quiet_step (first | (go_at_call_of 20 (Value.int IntKind.i64 (4 : Int)); exact calls_kw (U4 _ _ (by omega) (by omega))))))
          refine wpQuiet_nil ?_
          intro _ hw'
          obtain ⟨xr, hw''⟩ := hw'
          subst hw''
          rw [cont_str]
          clear x5 hne
          go_wp2_with fail
          go_roundw
          case rel =>
            refine ⟨k + 1, _, by omega, by go_num, hide ?_, rfl, hkept.trans (hkw.trans xr.h)⟩
            rw [stream_snoc zs k h1, ← hO.out, hS.out, List.take_of_length_le (by omega)]
            rfl
          case measure => simp [intOf]; omega
    · obtain rfl : k = zs.length := by omega
      rw [List.take_length] at hO
      have f0 := hkept.heapN (heap_alloc_new w _)
      have g0 := cell_of_row _ _ 0 _ _ _ f0
      have g1 := cell_of_row _ _ 1 _ _ _ f0
      have g2 := fun j => frozen_of_row _ _ j _ _ f0
      simp at g0 g1
      clear f0
      obtain rfl : O = R := hO.out.trans HR.out.symm
      by_cases hlong : O.length > 65536
      · have hl' : (65536 : Int) < ((O.length : Nat) : Int) := by omega
        go_wp2_with fail
        refine bodyPost_ret (v := .tuple #[.string ⟨#[]⟩, .agg #[.int .i64 7, .string ⟨#[]⟩]]) (by simp [results, Tryd.results7, go_sem, (two_set g0 g1 _ _).1, (two_set g0 g1 _ _).2]) rfl ⟨rfl, ?_⟩
        exact (((((Kept.refl NoB w).alloc _).trans' hkept (fun _ _ h => h)).setCell _ (fun h => absurd h (Nat.lt_irrefl _)) _).setCell _ (fun h => absurd h (Nat.lt_irrefl _)) _)
      · have hl' : ((O.length : Nat) : Int) ≤ 65536 := by omega
        go_wp2_with fail
        refine bodyPost_ret (v := .tuple #[.string ⟨O.toArray⟩, .agg #[.int .i64 0, .string ⟨#[]⟩]]) (by simp [results, Tryd.results7, go_sem, (two_set g0 g1 _ _).1, (two_set g0 g1 _ _).2]) rfl ⟨rfl, ?_⟩
        exact (((((Kept.refl NoB w).alloc _).trans' hkept (fun _ _ h => h)).setCell _ (fun h => absurd h (Nat.lt_irrefl _)) _).setCell _ (fun h => absurd h (Nat.lt_irrefl _)) _)

set_option maxRecDepth 100000 in
set_option maxHeartbeats 8000000 in
theorem Stream_bad (zs : List (En × Value)) (v : Value) (w : World) (ha : EntsAt w v zs) (hla : zs.length ≤ 2000000)
    (hb : ∀ z ∈ zs, z.1.path.size ≤ 2000000 ∧ z.1.notes.length ≤ 2000000 ∧ z.1.content.size ≤ 2000000) (hok : isTreeB (zs.map (·.1)) = false) :
    Calls Tryd.prog 7 #[v] w fun e w' => e = .returned (.tuple #[.string ⟨#[]⟩, .agg #[.int .i64 8, .string ⟨#[]⟩]]) ∧ Kept NoB w w' := by
  obtain ⟨ao, cap, rfl, hc⟩ := CellsAt.shape ha.1
  have HA := hide ha
  clear ha
  have HB := hide hb
  clear hb
  go_enter Tryd.func7, Tryd.ntmps7
  go_wp2_with fail
  refine (IsTree_any zs _ _ (HA.out.keptN ((Kept.refl NoB w).alloc _)) hla HB.out).mono ?_
  rintro r w1 ⟨rfl, hkept⟩
  rw [hok]
  have f0 := hkept.heapN (heap_alloc_new w _)
  have g0 := cell_of_row _ _ 0 _ _ _ f0
  have g1 := cell_of_row _ _ 1 _ _ _ f0
  have g2 := fun j => frozen_of_row _ _ j _ _ f0
  simp at g0 g1
  clear f0
  go_wp2_with fail
  refine bodyPost_ret (v := .tuple #[.string ⟨#[]⟩, .agg #[.int .i64 8, .string ⟨#[]⟩]]) (by simp [results, Tryd.results7, go_sem, (two_set g0 g1 _ _).1, (two_set g0 g1 _ _).2]) rfl ⟨rfl, ?_⟩
  exact (((((Kept.refl NoB w).alloc _).trans' hkept (fun _ _ h => h)).setCell _ (fun h => absurd h (Nat.lt_irrefl _)) _).setCell _ (fun h => absurd h (Nat.lt_irrefl _)) _)

/-- the document's answer to Stream: the text and the fault's code -/
def streamAns (es : List En) : List UInt8 × Int := if isTreeB es = false then ([], 8) else if (streamB es).length > 65536 then ([], 7) else (streamB es, 0)
theorem StreamR_any (zs : List (En × Value)) (v : Value) (w : World) (ha : EntsAt w v zs) (hla : zs.length ≤ 2000000)
    (hb : ∀ z ∈ zs, z.1.path.size ≤ 2000000 ∧ z.1.notes.length ≤ 2000000 ∧ z.1.content.size ≤ 2000000) (hT : (streamB (zs.map (·.1))).length ≤ 1000000000) :
    Calls Tryd.prog 7 #[v] w fun e w' => e = .returned (.tuple #[.string ⟨(streamAns (zs.map (·.1))).1.toArray⟩, .agg #[.int .i64 (streamAns (zs.map (·.1))).2, .string ⟨#[]⟩]]) ∧ Kept NoB w w' := by
  unfold streamAns
  cases hok : isTreeB (zs.map (·.1)) with
  | false =>
    rw [if_pos rfl]
    exact Stream_bad zs v w ha hla hb hok
  | true =>
    rw [if_neg (by decide)]
    refine (Stream_ref zs v w ha hla hb hT hok).mono ?_
    rintro e w' ⟨rfl, hk⟩
    refine ⟨?_, hk⟩
    split <;> rfl
end Go.Proofs.YtidioioldlmciaaDoor
