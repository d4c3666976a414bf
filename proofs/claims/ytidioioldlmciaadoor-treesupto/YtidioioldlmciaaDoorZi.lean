import Derived.Test.YtidioioldlmciaaDoorZh
namespace Go.Proofs.YtidioioldlmciaaDoor
open Go.RowKit

theorem conv_any (w : World) (v : Value) (l : List UInt8) (h : BytesAt w v l) : (convert 32 9 v).run Tryd.prog w = .ok (.string ⟨l.toArray⟩) w := by
  obtain ⟨h1, ao, cap, rfl, hcap, hcc⟩ := h
  rcases Nat.eq_zero_or_pos l.length with h0 | h0
  · have e : l = [] := List.eq_nil_of_length_eq_zero h0
    subst e
    cases ao with
    | none =>
      rw [run_convert_bytes_string w 32 9 5 none _ cap Tryd.underlying32 Tryd.underlying5 Tryd.underlying9]
      rfl
    | some a => exact run_convert_bytes_back (P := Tryd.prog) _ 32 9 5 a cap [] Tryd.underlying32 Tryd.underlying5 Tryd.underlying9 (fun j hj => absurd hj (by simp))
  · obtain ⟨b, o, rfl, hc⟩ := hcc h0
    refine run_convert_bytes_back (P := Tryd.prog) _ 32 9 5 ⟨b, o, none⟩ cap l Tryd.underlying32 Tryd.underlying5 Tryd.underlying9 (fun j hj => ?_)
    rw [Addr.add_lit, hc j (by omega)]
    exact byteL_at l j hj
theorem same_any {w0 : World} {ev : Value} {code : Int} (h : (code = 0 ∧ ev = .nilIface) ∨ (code ≠ 0 ∧ FaultAt w0 ev code)) (w : World) (hk : Kept NoB w0 w) :
    Calls Tryd.prog 8 #[ev, .agg #[.int .i64 code, .string ⟨#[]⟩]] w fun e w' => e = .returned (.bool true) ∧ Kept NoB w w' := by
  rcases h with ⟨rfl, rfl⟩ | ⟨h1, b, h2, h3, h4⟩
  · exact same_nil w
  · exact same_fault w ev code h1 ⟨b, h2, hk.cellN h3, fun j hj => hk.cellN (h4 j hj)⟩

theorem streamAns_small (es : List En) : (streamAns es).1.length ≤ 65536 := by
  unfold streamAns
  split
  · simp
  · split
    · simp
    · simp only; omega
theorem LentAt.keepN {w w' : World} {g : Nat} {es : List En} {gs : List Nat} (h : LentAt w g es gs) (hk : Kept NoB w w') : LentAt w' g es gs := ⟨h.len, hk.heapN h.row, fun i a b => hk.heapN (h.nts i a b), h.inc, h.lo⟩
theorem LentAt.ls {w : World} {g : Nat} {es : List En} {gs : List Nat} (h : LentAt w g es gs) : ∀ x, LS g gs x → g ≤ x ∧ x < w.heap.size := by
  rintro x (rfl | hx)
  · exact ⟨Nat.le_refl _, (Array.getElem?_eq_some_iff.1 h.row).1⟩
  · refine ⟨Nat.le_of_lt (h.lo x hx), ?_⟩
    obtain ⟨i, hi, rfl⟩ := List.getElem_of_mem hx
    exact (Array.getElem?_eq_some_iff.1 (h.nts i (by rw [← h.len]; exact hi) hi)).1

theorem OutTree.ents {w : World} {B : Nat} {v : Value} {zs : List (En × Value)} (h : OutTree w B v zs) : EntsAt w v zs := ⟨CellsAt.ofOwns h.own, fun z hz => CellsAt.ofOwns (h.nts z hz)⟩
theorem OutTree.keepS {S : Nat → Prop} {w w' : World} {B : Nat} {v : Value} {zs : List (En × Value)} (h : OutTree w B v zs) (hk : Kept S w w') (hS : ∀ k, S k → k < B) : OutTree w' B v zs :=
  ⟨hk.owns h.own (fun k hk' hx => by have := (h.own.lt k hk').1; have := hS k hx; omega), fun z hz => hk.owns (h.nts z hz) (fun k hk' hx => by have := ((h.nts z hz).lt k hk').1; have := hS k hx; omega), h.apart⟩

set_option maxRecDepth 100000 in
set_option maxHeartbeats 32000000 in
theorem Trees_any (zs : List (En × Value)) (vl : Value) (s : ByteArray) (c m : Int) (w : World) (hm : w.cell? ⟨0, 0, none⟩ = some (.int .i64 m)) (ha : EntsAt w vl zs) (hla : zs.length ≤ 1100000)
    (hp : ∀ z ∈ zs, z.1.path.size ≤ 1100000 ∧ z.1.notes.length ≤ 1100000 ∧ z.1.content.size ≤ 1100000) (hT : (streamB (zs.map (·.1))).length ≤ 1000000000) (hs : s.size ≤ 1100000) (hc1 : -9223372036854775808 ≤ c) (hc2 : c ≤ 9223372036854775807) :
    Calls Tryd.prog 3 #[vl, .string s, .int .i64 c] w fun r w' => r = .returned (.bool true) ∧ Kept NoB w w' := by
  have HM := hide hm
  have HA := hide ha
  have HP : Hid (∀ z ∈ zs, z.1.path.size ≤ 2000000 ∧ z.1.notes.length ≤ 2000000 ∧ z.1.content.size ≤ 2000000) := fun z hz => by have := hp z hz; omega
  have HT := hide hT
  clear hm ha hp hT
  obtain ⟨N, hN⟩ : ∃ N, N = (treeAns s.data.toList).1.length := ⟨_, rfl⟩
  have hNs : N ≤ 4700 := by rw [hN]; exact (treeAns_small _).1
  have HN := hide hN
  clear hN
  obtain ⟨ob, hob⟩ : ∃ ob, ob = w.heap.size := ⟨_, rfl⟩
  go_enter Tryd.func3, Tryd.ntmps3
  go_wp2_with fail
  rw [← hob]
  have HB0 := hide (book_new w)
  rw [← hob] at HB0
  have HK0 : Hid (Kept NoB w (w.alloc (.cells #[.slice none 0 0, .slice none 0 0, .slice none 0 0, .slice none 0 0] 29))) := (Kept.refl NoB w).alloc _
  generalize w.alloc (.cells #[.slice none 0 0, .slice none 0 0, .slice none 0 0, .slice none 0 0] 29) = W0 at *
  have HOB := hide hob
  clear hob
  go_loopw [8] (fun i wr => ∃ (k : Nat) (vb vt vn : Value) (lb lt ln : List Value), k ≤ 22 ∧ i = .int .i64 k ∧ Hid (BookAt wr ob ob vb vt vn lb lt ln) ∧ Hid (lb.length = 4 * k ∧ lt.length = 4 * k ∧ ln.length = 4 * (k * N)) ∧ Hid (Kept NoB w wr)) (fun i _ => 22 - (intOf i).toNat)
  case atStart => exact ⟨0, _, _, _, [], [], [], by omega, rfl, HB0, ⟨rfl, rfl, by simp⟩, HK0⟩
  case round =>
    clear HB0 HK0
    obtain ⟨k, vb, vt, vn, lb, lt, ln, hk, rfl, hB, hL, hkept⟩ := hrel
    go_wp2_with fail
    refine (pick20 c wr hc1 hc2).mono ?_
    rintro r w0 ⟨p, hp20, rfl, hw0⟩
    subst hw0
    by_cases hlt : k < 2 + p
    · go_wp2_with fail
      refine (lentTree_any zs vl _ (HA.out.keptN hkept.out) (by omega) (fun z hz => (HP.out z hz).2.1)).mono ?_
      rintro r w1 ⟨gs, rfl, hk1, hLt⟩
      have HLT := hide hLt
      have HK1 := hide hk1
      clear hLt hk1
      obtain ⟨g1, hg1⟩ : ∃ g1, g1 = w0.heap.size := ⟨_, rfl⟩
      rw [← hg1] at HLT ⊢
      have HG1 := hide hg1
      clear hg1
      have hes := HLT.out.ents
      rw [List.length_map] at hes
      have hlz : (lentZ (zs.map (·.1)) gs).length = zs.length := by rw [lentZ_length _ _ HLT.out.len, List.length_map]
      have hfz := lentZ_fst (zs.map (·.1)) gs HLT.out.len
      have hst := Stream_any (lentZ (zs.map (·.1)) gs) _ m w1 ((hkept.out.trans HK1.out).cellN HM.out) hes (by omega) (fun z hz => by
        have h1 : z.1 ∈ zs.map (·.1) := by rw [← hfz]; exact List.mem_map.2 ⟨z, hz, rfl⟩
        obtain ⟨y, hy, he⟩ := List.mem_map.1 h1
        rw [← he]
        exact HP.out y hy)
      rw [hfz] at hst
      have HST := hide hst
      clear hes hlz hfz hst
      go_wp2_with fail
      refine HST.out.mono ?_
      rintro r w2 ⟨bv, ev, rfl, hown, herr, hk2⟩
      obtain ⟨bao, bcap, rfl⟩ := owns_shape hown
      have HOWN := hide hown
      have HERR := hide herr
      have HK2 := hide hk2
      clear hown herr hk2 HST
      have HSR := hide (StreamR_any zs vl w2 (HA.out.keptN (hkept.out.trans (HK1.out.trans HK2.out))) (by omega) HP.out HT.out)
      have hal := streamAns_small (zs.map (·.1))
      generalize streamAns (zs.map (·.1)) = a at *
      obtain ⟨al, ac⟩ := a
      simp only at HOWN HERR HSR hal ⊢
      go_wp2_with fail
      refine HSR.out.mono ?_
      rintro r w3 ⟨rfl, hk3⟩
      have HK3 := hide hk3
      clear hk3 HSR
      go_wp2_with fail
      refine (same_any HERR.out _ (HK3.out.alloc _)).mono ?_
      rintro r w4 ⟨rfl, hk4⟩
      have HK4 : Hid (Kept NoB w2 w4) := (HK3.out.alloc _).trans' hk4 (fun _ _ h => h)
      clear hk4 HK3
      have hcv := conv_any w4 (.slice bao al.length bcap) al (CellsAt.ofOwns (HK4.out.owns HOWN.out (fun _ _ x => x)))
      have hself : ((⟨al.toArray⟩ : ByteArray).toList == (⟨al.toArray⟩ : ByteArray).toList) = true := by simp
      go_wp2_with fail
      refine (treeStays_any zs vl g1 gs w0 w4 (HA.out.keptN hkept.out) (HK1.out.trans (HK2.out.trans HK4.out)) (Nat.le_of_eq HG1.out.symm) (HLT.out.keepN (HK2.out.trans HK4.out)) (by omega) (fun z hz => (HP.out z hz).2.1)).mono ?_
      rintro r w5 ⟨rfl, hk5⟩
      have hls := HLT.out.ls
      have hB5 : Hid (BookAt w5 ob ob vb vt vn lb lt ln) := hB.out.keepUp (HK1.out.trans (HK2.out.trans HK4.out)) hk5 (fun x hx => by have := (hls x hx).1; rw [HG1.out] at this; exact this)
      have hO5 : Hid (w5.ownsRow w1.heap.size 5 1 (.slice bao al.length bcap) al.length (byteL al)) := hk5.owns (HK4.out.owns HOWN.out (fun _ _ x => x)) (fun x hx hy => by
        have h1 := (HOWN.out.lt x hx).1
        have h2 := (hls x hy).2
        omega)
      have HK5 : Hid (Kept NoB w w5) := (hkept.out.trans (HK1.out.trans (HK2.out.trans HK4.out))).trans' hk5 (fun x hx hy => by
        have h1 := (hls x hy).1
        have h2 := HG1.out
        have h3 := hkept.out.size
        omega)
      have hfr := hide (hB.out.fresh HK1.out.size hO5.out).1
      have hsz1 : ob ≤ w1.heap.size := by rw [HOB.out]; exact (hkept.out.trans HK1.out).size
      clear hls hk5 hcv hself HLT HK4 HOWN HERR HK2
      go_wp2_with fail
      refine (takeBytes_any ob ob vb vt vn lb lt ln k (.slice bao al.length bcap) al.length (byteL al) w5 hB5.out hL.out.1 (by omega) (owns_lower hO5.out hsz1) (fun j hj => ⟨_, byteL_at al j hj⟩) hfr.out (by omega)).mono ?_
      rintro r w6 ⟨rfl, vb6, y1, y2, y3, hB6, hk6⟩
      have HB6 := hide hB6
      have HK6 : Hid (Kept NoB w w6) := HK5.out.trans' hk6 (fun x hx hy => by have := HOB.out; unfold UpB at hy; omega)
      clear hB6 hk6 hB5 hO5 HK5 hfr HK1
      go_wp2_with fail
      refine (lent_any s w6 (by omega)).mono ?_
      rintro r w7 ⟨rfl, hr7, hk7⟩
      obtain ⟨g7, hg7⟩ : ∃ g7, g7 = w6.heap.size := ⟨_, rfl⟩
      rw [← hg7] at hr7 ⊢
      have HG7 := hide hg7
      have HR7 := hide hr7
      have HK7 := hide hk7
      have hTr := Tree_any s.data.toList _ m w7 ((HK6.out.trans hk7).cellN HM.out) (lent_bytes hr7) (by rw [← Lib.size_eq]; omega)
      have HTR := hide hTr
      clear hg7 hr7 hk7 hTr
      go_wp2_with fail
      refine HTR.out.mono ?_
      rintro r w8 ⟨tv, ts, tev, rfl, hout, htm, hterr, hk8⟩
      obtain ⟨tao, tcap, rfl⟩ := owns_shape hout.own
      have htr := TreeR_any s.data.toList w8 (by rw [← Lib.size_eq]; omega)
      rw [Lib.mk_data s] at htr
      have hsm := treeAns_small s.data.toList
      have HN2 := hide HN.out
      generalize treeAns s.data.toList = ta at *
      obtain ⟨tes, tc⟩ := ta
      simp only at htm hterr htr hsm HN2
      have htl : ts.length = N := by rw [HN2.out, ← htm, List.length_map]
      have HTN : Hid (∀ z ∈ ts, z.1.notes.length ≤ 4) := fun z hz => hsm.2 z.1 (by rw [← htm]; exact List.mem_map.2 ⟨z, hz, rfl⟩)
      have HOUT := hide hout
      have HTM := hide htm
      have HTE := hide hterr
      have HK8 := hide hk8
      have HTRR := hide htr
      have HTL := hide htl
      clear hout htm hterr hk8 htr hsm htl HTR HN2
      go_wp2_with fail
      refine HTRR.out.mono ?_
      rintro r w9 ⟨rl, rz, rfl, hk9, hrm, hre⟩
      obtain ⟨rao, rcap, rfl⟩ := ents_shape hre
      have HK9 := hide hk9
      have HRM := hide hrm
      have HRE := hide hre
      clear hk9 hrm hre HTRR
      go_wp2_with fail
      refine (same_any HTE.out _ (HK9.out.alloc _)).mono ?_
      rintro r w10 ⟨rfl, hk10⟩
      have HK10 : Hid (Kept NoB w9 w10) := ((Kept.refl NoB w9).alloc _).trans' hk10 (fun _ _ h => h)
      clear hk10 HTE
      have hal2 := alike_any ts rz (.slice tao ts.length tcap) (.slice rao rz.length rcap) w10 (HOUT.out.keepN (HK9.out.trans HK10.out)).ents (HRE.out.keptN HK10.out) (HTM.out.trans HRM.out.symm) (by rw [HTL.out]; omega) (fun z hz => by have := HTN.out z hz; omega)
      have HAL := hide hal2
      clear hal2
      go_wp2_with fail
      refine HAL.out.mono ?_
      rintro r w11 ⟨rfl, hk11⟩
      have HK11 := hide (HK9.out.trans (HK10.out.trans hk11))
      clear hk11 HAL HRE HRM HK9 HK10
      go_wp2_with fail
      refine (stays_any s g7 w11 (by omega) (hide ((HK8.out.trans HK11.out).heapN HR7.out))).mono ?_
      rintro r w12 ⟨rfl, hk12⟩
      have hg7 : g7 < w7.heap.size := (Array.getElem?_eq_some_iff.1 HR7.out).1
      have hO12 : Hid (OutTree w12 w7.heap.size (.slice tao ts.length tcap) ts) := (HOUT.out.keepN HK11.out).keepS hk12 (fun x hx => by omega)
      have hB12 : Hid (BookAt w12 ob ob vb6 vt vn (lb ++ [.slice bao al.length bcap, y1, y2, y3]) lt ln) := HB6.out.keepUp (HK7.out.trans (HK8.out.trans HK11.out)) hk12 (fun x hx => by rw [hx, HG7.out]; exact Nat.le_refl _)
      have HK12 : Hid (Kept NoB w w12) := (HK6.out.trans (HK7.out.trans (HK8.out.trans HK11.out))).trans' hk12 (fun x hx hy => by have h1 := HK6.out.size; have h2 := HG7.out; omega)
      have hfr1 : Hid (∀ i (hi : i < ln.length), ∀ b, ln[i].ownBlock = some b → ∀ z ∈ ts, z.2.ownBlock ≠ some b) := fun i hi b hb z hz => (HB6.out.fresh HK7.out.size (hO12.out.nts z hz)).2.2 i hi b hb
      have hfr2 : Hid (∀ i (hi : i < lt.length), ∀ b, lt[i].ownBlock = some b → (Value.slice tao ts.length tcap).ownBlock ≠ some b) := (HB6.out.fresh HK7.out.size hO12.out.own).2.1
      have hob7 : ob ≤ w7.heap.size := by rw [HOB.out]; exact (HK6.out.trans HK7.out).size
      have hkN : k * N + N ≤ 110000 := by
        have h1 : k * N ≤ 22 * N := Nat.mul_le_mul_right N hk
        omega
      have hTT := takeTree_any ob ob vb6 vt vn (lb ++ [.slice bao al.length bcap, y1, y2, y3]) lt ln k (k * N) N (.slice tao ts.length tcap) ts w12 hB12.out hL.out.2.1 hL.out.2.2 HTL.out (by omega) (by omega) (hO12.out.lower hob7) hfr1.out hfr2.out (fun z hz => by have := HTN.out z hz; omega)
      have HTT := hide hTT
      clear hTT hfr1 hfr2 hB12 hO12 hk12 HOUT HR7 HK7 HK8 HK11 hg7
      go_wp2_with fail
      refine HTT.out.mono ?_
      rintro r w13 ⟨rfl, vt', vn', lt', ln', hB13, hl1, hl2, hk13⟩
      have HB13 := hide hB13
      have HK13 : Hid (Kept NoB w w13) := HK12.out.trans' hk13 (fun x hx hy => by have := HOB.out; unfold UpB at hy; omega)
      have HLL : Hid ((lb ++ [.slice bao al.length bcap, y1, y2, y3]).length = 4 * (k + 1) ∧ lt'.length = 4 * (k + 1) ∧ ln'.length = 4 * ((k + 1) * N)) := by
        refine ⟨?_, hl1, ?_⟩
        · rw [List.length_append, hL.out.1]; simp; omega
        · rw [hl2, Nat.add_mul, Nat.one_mul]
      have hKP := kept_any ob ob vb6 vt' vn' (lb ++ [.slice bao al.length bcap, y1, y2, y3]) lt' ln' w13 hB13 (by rw [HLL.out.1]; omega) (by rw [hl1]; omega) (by rw [hl2]; omega)
      have HKP := hide hKP
      clear hB13 hl1 hl2 hk13 hKP HTT HK12
      go_wp2_with fail
      refine HKP.out.mono ?_
      rintro r w14 ⟨rfl, hk14⟩
      have HB14 := hide (HB13.out.keepN hk14)
      have HK14 := hide (HK13.out.trans hk14)
      clear hk14 HKP HB13 HK13
      go_wp2_with fail
      go_roundw
      case rel => exact ⟨k + 1, vb6, vt', vn', _, lt', ln', by omega, by go_num, HB14, HLL, HK14⟩
      case measure => simp [intOf]; omega
    · go_wp2_with fail
      go_ret
      exact ⟨rfl, hkept.out⟩
end Go.Proofs.YtidioioldlmciaaDoor
