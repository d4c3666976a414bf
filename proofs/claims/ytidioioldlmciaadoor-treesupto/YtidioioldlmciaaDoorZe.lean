import Derived.Test.YtidioioldlmciaaDoorZd
namespace Go.Proofs.YtidioioldlmciaaDoor
open Go.RowKit

theorem ntake_len (n : Nat) (s : List UInt8 × Bool) : (ntake n s).2.1.length ≤ s.1.length := by
  unfold ntake
  split
  · exact Nat.le_refl _
  · simp only [List.length_drop]; omega
theorem nnum_len (n : Nat) (s : List UInt8 × Bool) : (nnum n s).2.1.length ≤ s.1.length := ntake_len n s
theorem ntext_len (n : Nat) (s : List UInt8 × Bool) : (ntext n s).2.1.length ≤ s.1.length := Nat.le_trans (ntake_len _ _) (nnum_len n s)
theorem nNotes_len : ∀ (c : Nat) (s : List UInt8 × Bool), (nNotes c s).2.1.length ≤ s.1.length
  | 0, _ => Nat.le_refl _
  | c + 1, _ => Nat.le_trans (nNotes_len c _) (Nat.le_trans (ntext_len _ _) (ntext_len _ _))
theorem nHead_dec (t : List UInt8) (h : t ≠ []) : (nHead (t, false)).2.2.1.length < t.length := by
  have h1 : (nnum 1 (t, false)).2.1.length < t.length := by
    have : (nnum 1 (t, false)).2.1 = t.drop 1 := rfl
    rw [this, List.length_drop]
    have := List.length_pos_iff.2 h
    omega
  have h2 : (nHead (t, false)).2.2.1.length ≤ (nnum 1 (t, false)).2.1.length := by
    unfold nHead
    exact Nat.le_trans (nnum_len _ _) (Nat.le_trans (nNotes_len _ _) (Nat.le_trans (nnum_len _ _) (Nat.le_trans (nnum_len _ _) (Nat.le_trans (nnum_len _ _) (ntext_len _ _)))))
  omega
theorem nHead_path (t : List UInt8) : (nHead (t, false)).1.path.size ≤ 50000000 := by
  unfold nHead
  simp only
  rw [mk_size]
  have := ntext_byte (nnum 1 (t, false)).2
  omega
/-- all entries, as silt's Read reads them behind an entry -/
def nAll : Nat → En → List UInt8 → Option (List En)
  | 0, _, _ => some []
  | f + 1, d, t => if t = [] then some [] else
    if headOk d (nHead (t, false)) = true then
      (nAll f (nHead (t, false)).1 ((nHead (t, false)).2.2.1.drop (nHead (t, false)).2.1)).map (fun es => { (nHead (t, false)).1 with content := ⟨((nHead (t, false)).2.2.1.take (nHead (t, false)).2.1).toArray⟩ } :: es)
    else none
def ansOf : Option (List En) → List En × Int
  | none => ([], 4)
  | some es => (es, 0)
def nTreeAns (l : List UInt8) : List En × Int := if l.length > 65536 then ([], 7) else ansOf (nAll (l.length + 1) nilE0 l)
def TreeAns (w w' : World) (r : Ending) (a : List En × Int) : Prop :=
  ∃ v zs ev, r = .returned (.tuple #[v, ev]) ∧ OutTree w' w.heap.size v zs ∧ zs.map (·.1) = a.1 ∧ ((a.2 = 0 ∧ ev = .nilIface) ∨ (a.2 ≠ 0 ∧ FaultAt w' ev a.2)) ∧ Kept NoB w w'
theorem out_nil (w : World) (B : Nat) : OutTree w B (.slice none 0 0) [] := ⟨⟨rfl, .inl ⟨rfl, rfl⟩⟩, fun _ h => (by cases h), fun i _ hi => absurd hi (Nat.not_lt_zero _)⟩
theorem OutTree.lower {w : World} {B C : Nat} {v : Value} {zs : List (En × Value)} (h : OutTree w B v zs) (hC : C ≤ B) : OutTree w C v zs := ⟨owns_lower h.own hC, fun z hz => owns_lower (h.nts z hz) hC, h.apart⟩
theorem OutTree.keepN {w w' : World} {B : Nat} {v : Value} {zs : List (En × Value)} (h : OutTree w B v zs) (hk : Kept NoB w w') : OutTree w' B v zs := ⟨hk.owns h.own (fun _ _ x => x), fun z hz => hk.owns (h.nts z hz) (fun _ _ x => x), h.apart⟩

/-- where Read stands -/
structure RdS (w : World) (rb : Nat) (l : List UInt8) (wr : World) (v : Value) (zs : List (En × Value)) (d : En) (dv : Value) (t : List UInt8) : Prop where
  out : OutTree wr (rb + 1) v zs
  rd : ReadAt wr rb l d dv (t, false)
  kept : Kept NoB w wr
  rbw : rb = w.heap.size

theorem RdS.push {w : World} {rb : Nat} {l : List UInt8} {wr w2 w3 : World} {v v3 : Value} {zs : List (En × Value)} {d d2 : En} {dv dv2 : Value} {t t2 : List UInt8} {e : En} {vn : Value} {o : Obj} (h : RdS w rb l wr v zs d dv t) (hk : Kept (At rb) wr w2) (ho : w2.ownsRow wr.heap.size 59 2 vn e.notes.length (e.notes.flatMap ntCells)) (hr : ReadAt w2 rb l d2 dv2 (t2, false))
    (hown : w3.ownsRow (rb + 1) 55 6 v3 (zs.length + 1) (zs.flatMap enCells ++ enCells (e, vn))) (hg : (w2.alloc o).grownBy w3 v.ownBlock) : RdS w rb l w3 v3 (zs ++ [(e, vn)]) d2 dv2 t2 := by
  have hrb := h.rd.lt
  have hown2 : w2.ownsRow (rb + 1) 55 6 v zs.length (zs.flatMap enCells) := hk.owns h.out.own (fun k hk' hx => by have := (h.out.own.lt k hk').1; unfold At at hx; omega)
  have hk3 : Kept (OwnB v) w2 w3 := ((Kept.refl _ w2).alloc o).grown hg (fun k hk _ => hk)
  have hup : ∀ k, OwnB v k → rb < k := fun k hx => (hown2.lt k hx).1
  have key : ∀ {u : Value} {m : Nat} {xs : List Value} {B : Nat}, w2.ownsRow B 59 2 u m xs → w3.ownsRow B 59 2 u m xs := by
    intro u m xs B hu
    exact hk3.owns hu (fun k hk' hx => by
      obtain ⟨c, hc⟩ := owns_block hu hk'
      exact owns_ne hown2 hc (by decide) k hx rfl)
  refine ⟨⟨?_, ?_, ?_⟩, hr.grows hown2 (by decide) (Nat.lt_succ_self rb) hk3, ?_, h.rbw⟩
  · rw [List.length_append, List.flatMap_append]
    simpa using hown
  · intro z hz
    rcases List.mem_append.1 hz with hz | hz
    · refine key (hk.owns (h.out.nts z hz) (fun k hk' hx => by have := ((h.out.nts z hz).lt k hk').1; unfold At at hx; omega))
    · rw [List.mem_singleton] at hz
      subst hz
      exact owns_lower (key ho) hrb
  · intro i j hi hj hij k hk1 hk2
    rw [List.length_append, List.length_singleton] at hi hj
    rw [List.getElem_append_left (show i < zs.length by omega)] at hk1
    by_cases h1 : j < zs.length
    · rw [List.getElem_append_left h1] at hk2
      exact h.out.apart i j (by omega) h1 hij k hk1 hk2
    · have hj2 : j = zs.length := by omega
      subst hj2
      rw [List.getElem_append_right (Nat.le_refl _)] at hk2
      simp at hk2
      have a1 := ((h.out.nts zs[i] (List.getElem_mem _)).lt k hk1).2
      have a2 := (ho.lt k hk2).1
      omega
  · exact (h.kept.trans' hk (fun i hi hx => by have := h.rbw; unfold At at hx; omega)).trans' hk3 (fun i hi hx => by have := hup i hx; have := h.rbw; omega)
def posLeft (w : World) (rb n : Nat) : Nat := match w.cell? ⟨rb, 1, none⟩ with | some (.int _ p) => n - p.toNat | _ => 0
theorem ReadAt.pos {w : World} {rb : Nat} {l : List UInt8} {d : En} {dv : Value} {s : List UInt8 × Bool} (h : ReadAt w rb l d dv s) : posLeft w rb l.length = s.1.length := by
  obtain ⟨bv, p, er, h1, _, _, h4, h5, _⟩ := h
  obtain ⟨_, c1, _⟩ := row9 h1
  unfold posLeft
  rw [c1, h5, List.length_drop]
  simp
theorem headOk_bad {d : En} {h : En × Nat × (List UInt8 × Bool)} (hk : headOk d h = true) : h.2.2.2 = false ∧ h.2.1 ≤ h.2.2.1.length := by
  unfold headOk at hk
  simp only [Bool.and_eq_true, Bool.not_eq_true', decide_eq_true_eq] at hk
  exact ⟨hk.1, hk.2.2.2⟩

theorem nHead_small (t : List UInt8) : (nHead (t, false)).2.1 < 1099511627776 := by
  unfold nHead
  exact nnum_small 4 _ (by omega)
theorem nHead_notes (t : List UInt8) : (nHead (t, false)).1.notes.length < 256 := by
  unfold nHead
  simp only
  rw [nNotes_count]
  exact nnum_byte _
theorem nHead_plain (t : List UInt8) : (nHead (t, false)).1.content = ⟨#[]⟩ := rfl
theorem FaultAt.keepN {w w' : World} {v : Value} {c : Int} (h : FaultAt w v c) (hk : Kept NoB w w') : FaultAt w' v c := by
  obtain ⟨b, h1, h2, h3⟩ := h
  exact ⟨b, h1, hk.cellN h2, fun j hj => hk.cellN (h3 j hj)⟩

theorem ntake_ok (n : Nat) (t : List UInt8) (h : n ≤ t.length) : ntake n (t, false) = (t.take n, (t.drop n, false)) := by
  unfold ntake
  rw [if_neg (by simp)]
  have : decide (t.length < n) = false := by simp; omega
  rw [this]

set_option maxRecDepth 100000 in
set_option maxHeartbeats 16000000 in
theorem Read_any (l : List UInt8) (bv : Value) (m : Int) (w : World) (hm : w.cell? ⟨0, 0, none⟩ = some (.int .i64 m)) (hb : BytesAt w bv l) (hl : l.length ≤ 2000000) :
    Calls Tryd.prog 22 #[bv] w fun r w' => TreeAns w w' r (nTreeAns l) := by
  obtain ⟨ao, cap, rfl⟩ : ∃ ao cap, bv = .slice ao l.length cap := by
    obtain ⟨_, ao, cap, h, _⟩ := hb
    exact ⟨ao, cap, h⟩
  by_cases hbig : 65536 < l.length
  · have HA : Hid (nTreeAns l = ([], 7)) := by unfold Hid nTreeAns; rw [if_pos hbig]
    clear hb hm
    go_enter Tryd.func22, Tryd.ntmps22
    go_wp2_with fail
    go_ret2
    rw [HA.out]
    exact ⟨_, [], _, rfl, out_nil _ _, rfl, .inr ⟨by decide, fault_new w 7 64⟩, (Kept.refl NoB w).alloc _⟩
  · have HM := hide hm
    have HB := hide hb
    have hwz : 0 < w.heap.size := World.block_lt_of_cell? w ⟨0, 0, none⟩ hm
    clear hm hb
    obtain ⟨A, hA⟩ : ∃ A, A = nAll (l.length + 1) nilE0 l := ⟨_, rfl⟩
    have HAN : Hid (nTreeAns l = ansOf A) := by
      unfold Hid nTreeAns
      rw [if_neg hbig, hA]
    have HAA := hide hA
    clear hA
    obtain ⟨rb, hrb⟩ : ∃ rb, rb = w.heap.size := ⟨_, rfl⟩
    go_enter Tryd.func22, Tryd.ntmps22
    go_wp2_with fail
    have hS0 : RdS w rb l (w.alloc (.cells #[.iface 80 (.slice ao l.length cap), .int .i64 0, .string ⟨#[]⟩, .int .i64 0, .int .i64 0, .int .i64 0, .slice none 0 0, .string ⟨#[]⟩, .nilIface] 84)) (.slice none 0 0) [] nilE0 (.slice none 0 0) l := by
      refine ⟨out_nil _ _, ⟨.slice ao l.length cap, 0, .nilIface, by rw [hrb]; exact heap_alloc_new w _, CellsAt.keptN HB.out (by decide) ((Kept.refl NoB w).alloc _), fun h0 k hk => ?_, Nat.zero_le _, rfl, .inl ⟨rfl, rfl⟩⟩, (Kept.refl NoB w).alloc _, hrb⟩
      obtain ⟨_, ao', cap', e, _, h4⟩ := HB.out
      cases e
      replace h0 : 0 < l.length := h0
      obtain ⟨b, o, e2, h5⟩ := h4 h0
      rw [e2] at hk
      cases hk
      rw [hrb]
      have h6 := h5 0 (by omega)
      rw [byteL_at l 0 h0] at h6
      exact World.block_lt_of_cell? w _ h6
    rw [← hrb]
    have HS0 := hide hS0
    generalize w.alloc (.cells #[.iface 80 (.slice ao l.length cap), .int .i64 0, .string ⟨#[]⟩, .int .i64 0, .int .i64 0, .int .i64 0, .slice none 0 0, .string ⟨#[]⟩, .nilIface] 84) = W0 at *
    have HRB := hide hrb
    have hrb0 : 0 < rb := by omega
    clear hS0 hrb
    go_loopw [5] (fun u wr => ∃ (zs : List (En × Value)) (d : En) (dv : Value) (t : List UInt8) (ao1 : Option Addr) (cap1 f : Nat), u = .slice ao1 zs.length cap1 ∧ zs.length + t.length ≤ l.length ∧ t.length < f ∧ d.path.size ≤ 50000000 ∧ Hid (A = (nAll f d t).map (fun es => zs.map (·.1) ++ es)) ∧ Hid (RdS w rb l wr (.slice ao1 zs.length cap1) zs d dv t)) (fun _ wr => posLeft wr rb l.length)
    case atStart => exact ⟨[], nilE0, .slice none 0 0, l, none, 0, l.length + 1, rfl, by simp, by omega, Nat.zero_le _, by rw [HAA.out]; simp [Hid], HS0⟩
    case round =>
      clear HS0 W0
      obtain ⟨zs, d, dv, t, ao1, cap1, f, rfl, hlen, hf, hdp, heq, hS⟩ := hrel
      obtain ⟨f, rfl⟩ : ∃ f', f = f' + 1 := ⟨f - 1, by omega⟩
      have HL := hide (left_any wr hS.out.rd (by omega))
      have HPOS := hide hS.out.rd.pos
      simp only at HL HPOS
      by_cases hlt : 0 < t.length
      · have hne : t ≠ [] := List.length_pos_iff.1 hlt
        have hdec := nHead_dec t hne
        have hpath := nHead_path t
        have hsmall := nHead_small t
        have hnts := nHead_notes t
        have hplain := nHead_plain t
        have HSA : Hid (nAll (f + 1) d t = if headOk d (nHead (t, false)) = true then (nAll f (nHead (t, false)).1 ((nHead (t, false)).2.2.1.drop (nHead (t, false)).2.1)).map (fun es => { (nHead (t, false)).1 with content := ⟨((nHead (t, false)).2.2.1.take (nHead (t, false)).2.1).toArray⟩ } :: es) else none) := by
          unfold Hid
          rw [nAll, if_neg hne]
        have HHD : Hid (∀ wx, Kept NoB wr wx → _) := fun wx hx => head_any t m wx (hx.cellN (hS.out.kept.cellN HM.out)) hrb0 (by omega) hdp (hS.out.rd.keepN hx)
        generalize nHead (t, false) = H at *
        obtain ⟨en, n, t2, b2⟩ := H
        simp only at hdec hpath hsmall hnts hplain HSA HHD
        go_wp2_with fail
        refine HL.out.mono ?_
        rintro r w1 ⟨rfl, k, hw1⟩
        have HK1 : Hid (Kept NoB wr w1) := by unfold Hid; rw [hw1]; exact (Kept.refl NoB wr).drewN k
        have HS1 : Hid (w1.heap.size = wr.heap.size) := by unfold Hid; rw [hw1]; rfl
        clear hw1 HL
        go_wp2_with fail
        refine (HHD.out w1 HK1.out).mono ?_
        rintro r w2 ⟨hk2, hcase⟩
        clear HHD
        rcases hcase with ⟨hok, vn, rfl, ho2, hr2⟩ | ⟨hno, ev, rfl, hfa⟩
        · obtain ⟨hb2, hn2⟩ := headOk_bad hok
          simp only at hb2 hn2
          subst hb2
          have HSB : Hid (nAll (f + 1) d t = (nAll f en (t2.drop n)).map (fun es => { en with content := ⟨(t2.take n).toArray⟩ } :: es)) := by
            unfold Hid
            rw [HSA.out, if_pos hok]
          obtain ⟨nao, ncap, rfl⟩ := owns_shape ho2
          have HO2 := hide ho2
          have HR2 := hide hr2
          have HK2 := hide hk2
          have hw2 : w1.heap.size ≤ w2.heap.size := hk2.size
          have hrb2 := hr2.lt
          clear hk2 hr2 ho2 hok HSA
          unfold enVal
          rw [hplain]
          clear hplain
          obtain ⟨g3, hg3⟩ : ∃ g3, g3 = w2.heap.size := ⟨_, rfl⟩
          have hka : Kept NoB w2 (w2.alloc (.cells #[.string en.path, .int .i64 en.kind, .int .i64 en.mode, .int .i64 en.time, .slice nao en.notes.length ncap, .string ⟨#[]⟩] 55)) := (Kept.refl NoB w2).alloc _
          have hba : (w2.alloc (.cells #[.string en.path, .int .i64 en.kind, .int .i64 en.mode, .int .i64 en.time, .slice nao en.notes.length ncap, .string ⟨#[]⟩] 55)).heap[g3]? = some (.cells #[.string en.path, .int .i64 en.kind, .int .i64 en.mode, .int .i64 en.time, .slice nao en.notes.length ncap, .string ⟨#[]⟩] 55 (0, 0)) := by rw [hg3]; exact heap_alloc_new w2 _
          go_upto_region 9 with fail
          rw [← hg3]
          have HG3 := hide hg3
          have hgl : rb < g3 := by omega
          have hgw : w1.heap.size ≤ g3 := by omega
          clear hg3 hw2
          have HKA := hide hka
          have HBA := hide hba
          generalize w2.alloc (.cells #[.string en.path, .int .i64 en.kind, .int .i64 en.mode, .int .i64 en.time, .slice nao en.notes.length ncap, .string ⟨#[]⟩] 55) = w3 at *
          have HT := hide (take_any n (t2, false) w3 (by omega) (by omega) (HR2.out.keepN HKA.out))
          rw [ntake_ok n t2 hn2] at HT
          simp only at HT
          clear hka hba
          go_wp2_with fail
          refine HT.out.mono ?_
          rintro r w4 ⟨tv, rfl, hb4, hr4, hk4⟩
          have hcv := bytes_string _ tv w4 hb4
          obtain ⟨tao, tcap, rfl, _⟩ := CellsAt.shape hb4
          have hlt2 : (t2.take n).length = n := by rw [List.length_take]; omega
          rw [hlt2] at hcv
          rw [hlt2]
          clear hlt2
          have HR4 := hide hr4
          have HK4 := hide hk4
          have HB4 := hide (hk4.heap HBA.out (fun hx => by unfold At at hx; omega))
          obtain ⟨c0, c1, c2, c3, c4, c5, cf⟩ := box_cells HB4.out
          clear hb4 hr4 hk4 HT
          have hks : Kept (At g3) w4 (w4.setCell ⟨g3, 5, none⟩ (.string ⟨(t2.take n).toArray⟩)) := (Kept.refl (At g3) w4).setCell ⟨g3, 5, none⟩ (fun _ => rfl) _
          have hbs : (w4.setCell ⟨g3, 5, none⟩ (.string ⟨(t2.take n).toArray⟩)).heap[g3]? = some (.cells #[.string en.path, .int .i64 en.kind, .int .i64 en.mode, .int .i64 en.time, .slice nao en.notes.length ncap, .string ⟨(t2.take n).toArray⟩] 55 (0, 0)) := by
            rw [heap_setCell_same _ _ _ _ _ _ HB4.out]
            rfl
          have HKS := hide hks
          have HBS := hide hbs
          clear hks hbs
          go_upto_region 10 with fail
          clear c0 c1 c2 c3 c4 c5 cf hcv
          generalize w4.setCell ⟨g3, 5, none⟩ (.string ⟨(t2.take n).toArray⟩) = w5 at *
          obtain ⟨c0, c1, c2, c3, c4, c5, cf⟩ := box_cells HBS.out
          have hK5 : Kept (At rb) wr w5 := by
            have k1 : Kept (At rb) wr w2 := (HK1.out.mono (T := At rb) (fun _ _ x => absurd x (fun y => y))).trans HK2.out
            have k2 : Kept (At rb) wr w4 := (k1.trans (HKA.out.mono (T := At rb) (fun _ _ x => absurd x (fun y => y)))).trans HK4.out
            exact k2.trans' HKS.out (fun i hi hx => by have := HS1.out; unfold At at hx; omega)
          have HK5 := hide hK5
          have HR5 : Hid (ReadAt w5 rb l en (.slice nao en.notes.length ncap) (t2.drop n, false)) := HR4.out.keep HKS.out (fun k hx => by
            unfold At at hx
            subst hx
            refine ⟨by omega, fun c hc => ?_⟩
            rw [HB4.out] at hc
            injection hc with hc
            injection hc with _ hc
            exact absurd hc (by decide))
          have HO5 : Hid (w5.ownsRow wr.heap.size 59 2 (.slice nao en.notes.length ncap) en.notes.length (en.notes.flatMap ntCells)) := by
            have o3 := HKA.out.owns HO2.out (fun _ _ x => x)
            have o4 := HK4.out.owns o3 (fun k hk' hx => by have := (HO2.out.lt k hk').1; have := HS1.out; have := hS.out.rd.lt; unfold At at hx; omega)
            have o5 := HKS.out.owns o4 (fun k hk' hx => by have := (HO2.out.lt k hk').2; have := HG3.out; unfold At at hx; omega)
            exact owns_lower o5 (by rw [HS1.out]; exact Nat.le_refl _)
          have HW5 : Hid (w5.ownsRow (rb + 1) 55 6 (.slice ao1 zs.length cap1) zs.length (zs.flatMap enCells)) := HK5.out.owns hS.out.out.own (fun k hk' hx => by have := (hS.out.out.own.lt k hk').1; unfold At at hx; omega)
          have hrb5 := HR5.out.lt
          clear hK5
          go_wp2_with (at_builtin; refine wpList_append2 _ rfl (.tmp 32) (.tmp 34) 22 22 rfl (rb + 1) 55 zeroEn 6 80 Tryd.underlying22 info55 rfl (.slice ao1 zs.length cap1) zs.length _ rfl (HW5.out.alloc _) (.slice (some ⟨w5.heap.size, 0, none⟩) 1 1) 1 (enCells (({ en with content := ⟨(t2.take n).toArray⟩ } : En), .slice nao en.notes.length ncap)) rfl (Src.ofSlice _ Tryd.underlying22 _ 1 1 _ rfl (row_new' _ _ _ _ _ rfl (by simp)) (by intro u hu; simp [enCells] at hu; rcases hu with rfl | rfl | rfl | rfl | rfl | rfl <;> rfl)) (by omega) (by unfold maxLen; omega) (by simp; omega) ?_; intro v' w6 hown' hold' hg6 hl6; obtain ⟨ao3, cap3, rfl⟩ := owns_shape hown')
          have HP := hide (hS.out.push (e := ({ en with content := ⟨(t2.take n).toArray⟩ } : En)) HK5.out HO5.out HR5.out hown' hg6)
          go_roundw
          case rel =>
            refine ⟨zs ++ [(({ en with content := ⟨(t2.take n).toArray⟩ } : En), .slice nao en.notes.length ncap)], en, .slice nao en.notes.length ncap, t2.drop n, ao3, cap3, f, by simp, by simp; omega, by simp; omega, hpath, hide ?_, hide (by simpa using HP.out)⟩
            rw [heq.out, HSB.out, Option.map_map]
            congr 1
            funext es
            simp
          case measure =>
            rw [HPOS.out, HP.out.rd.pos]
            simp only [List.length_drop]
            omega
        · have HF : Hid (nTreeAns l = ([], 4)) := by
            unfold Hid
            rw [HAN.out, heq.out, HSA.out, hno]
            rfl
          have HFA := hide hfa
          obtain ⟨fb, rfl, _, _⟩ := hfa
          have hne2 := fault_ne2 fb
          have HK2 := hide hk2
          clear hk2 hno HSA heq
          unfold zeroEn
          go_wp2_with fail
          go_ret2
          rw [HF.out]
          refine ⟨_, [], _, rfl, out_nil _ _, rfl, .inr ⟨by decide, HFA.out.keepN ((Kept.refl NoB w2).alloc _)⟩, ?_⟩
          exact ((hS.out.kept.trans HK1.out).trans' HK2.out (fun i hi hx => by have := HRB.out; unfold At at hx; omega)).alloc _
      · have hl0 : t = [] := List.eq_nil_of_length_eq_zero (by omega)
        subst hl0
        have HF : Hid (nTreeAns l = (zs.map (·.1), 0)) := by
          unfold Hid
          rw [HAN.out, heq.out, nAll, if_pos rfl]
          simp [ansOf]
        have hL : Calls Tryd.prog 33 #[.pointer (some ⟨rb, 0, none⟩)] wr fun e w' => e = .returned (.int .i64 0) ∧ ∃ m, w' = wr.drewN m := HL.out
        have HL0 := hide hL
        clear hL HL
        go_wp2_with fail
        refine HL0.out.mono ?_
        rintro r w1 ⟨rfl, k, hw1⟩
        have HK1 : Hid (Kept NoB wr w1) := by unfold Hid; rw [hw1]; exact (Kept.refl NoB wr).drewN k
        clear hw1 HL0
        go_wp2_with fail
        go_ret2
        rw [HF.out]
        exact ⟨_, zs, _, rfl, (hS.out.out.keepN HK1.out).lower (by rw [HRB.out]; omega), rfl, .inl ⟨rfl, rfl⟩, hS.out.kept.trans HK1.out⟩

set_option maxRecDepth 100000 in
set_option maxHeartbeats 8000000 in
theorem Tree_any0 (l : List UInt8) (bv : Value) (m : Int) (w : World) (hm : w.cell? ⟨0, 0, none⟩ = some (.int .i64 m)) (hb : BytesAt w bv l) (hl : l.length ≤ 2000000) :
    Calls Tryd.prog 12 #[bv] w fun r w' => TreeAns w w' r (nTreeAns l) := by
  have HW := hide (Read_any l bv m w hm hb hl)
  clear hm hb
  go_enter Tryd.func12, Tryd.ntmps12
  go_wp2_with fail
  refine HW.out.mono ?_
  rintro r w1 ⟨v, zs, ev, rfl, h1, h2, h3, h4⟩
  have HB := hide (And.intro h1 (And.intro h2 (And.intro h3 h4)))
  clear h1 h2 h3 h4
  go_wp2_with fail
  go_ret2
  exact ⟨_, zs, _, rfl, HB.out.1, HB.out.2.1, HB.out.2.2.1, HB.out.2.2.2⟩
end Go.Proofs.YtidioioldlmciaaDoor
