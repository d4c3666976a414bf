import Derived.Test.YtbmmcdofanajcaaDoorZd
namespace Go.Proofs.YtbmmcdofanajcaaDoor
open Go.RowKit

def sAll : Nat → (List UInt8 × Bool) → List En × Bool
  | 0, s => ([], s.2)
  | f + 1, s => if s.1 = [] then ([], s.2) else ((sEnt s).1 :: (sAll f (sEnt s).2).1, (sAll f (sEnt s).2).2)
theorem sNotes_count : ∀ (c : Nat) (s : List UInt8 × Bool), (sNotes c s).1.length = c
  | 0, _ => rfl
  | c + 1, _ => by rw [sNotes, List.length_cons, sNotes_count c]
theorem stake_le (n : Nat) (s : List UInt8 × Bool) : (stake n s).1.length ≤ s.1.length := by unfold stake; simp; omega
theorem stext_le (n : Nat) (s : List UInt8 × Bool) : (stext n s).1.length ≤ s.1.length := Nat.le_trans (stake_le _ _) (snum_len n s)
theorem sEnt_dec (s : List UInt8 × Bool) (h : s.1 ≠ []) : (sEnt s).2.1.length < s.1.length := by
  have h1 : (snum 1 s).2.1.length < s.1.length := by
    have : (snum 1 s).2.1 = s.1.drop 1 := rfl
    rw [this, List.length_drop]
    have := List.length_pos_iff.2 h
    omega
  have h2 : (sEnt s).2.1.length ≤ (snum 1 s).2.1.length := by
    unfold sEnt
    exact Nat.le_trans (stext_len _ _) (Nat.le_trans (sNotes_len _ _) (Nat.le_trans (snum_len _ _) (Nat.le_trans (snum_len _ _) (Nat.le_trans (snum_len _ _) (stext_len _ _)))))
  omega
theorem sEnt_small (s : List UInt8 × Bool) : (sEnt s).1.path.size ≤ s.1.length ∧ (sEnt s).1.notes.length ≤ 255 ∧ (sEnt s).1.content.size ≤ s.1.length := by
  unfold sEnt
  refine ⟨?_, ?_, ?_⟩
  · rw [mk_size]; exact Nat.le_trans (stext_le _ _) (snum_len _ _)
  · rw [sNotes_count]
    have := snum_byte (snum 5 (snum 2 (stext 1 (snum 1 s).2).2).2).2
    omega
  · rw [mk_size]
    exact Nat.le_trans (stext_le _ _) (Nat.le_trans (sNotes_len _ _) (Nat.le_trans (snum_len _ _) (Nat.le_trans (snum_len _ _) (Nat.le_trans (snum_len _ _) (Nat.le_trans (stext_len _ _) (snum_len _ _))))))

/-- where Read stands -/
structure RdS (w : World) (rb : Nat) (wr : World) (v : Value) (zs : List (En × Value)) (st : List UInt8 × Bool) : Prop where
  out : OutTree wr (rb + 1) v zs
  rd : ReadAt wr rb st
  kept : Kept NoB w wr
  rbw : rb = w.heap.size
  sm : ∀ z ∈ zs, z.1.path.size ≤ 65536 ∧ z.1.notes.length ≤ 65536 ∧ z.1.content.size ≤ 65536

theorem RdS.ents {w : World} {rb : Nat} {wr : World} {v : Value} {zs : List (En × Value)} {st : List UInt8 × Bool} (h : RdS w rb wr v zs st) : EntsAt wr v zs :=
  ⟨CellsAt.ofOwns h.out.own, fun z hz => CellsAt.ofOwns (h.out.nts z hz)⟩

theorem RdS.push {w : World} {rb : Nat} {wr w2 w3 : World} {v v3 : Value} {zs : List (En × Value)} {st st2 : List UInt8 × Bool} {e : En} {vn : Value} {o : Obj} (h : RdS w rb wr v zs st) (hk : Kept (At rb) wr w2) (ho : w2.ownsRow wr.heap.size 59 2 vn e.notes.length (e.notes.flatMap ntCells)) (hr : ReadAt w2 rb st2)
    (hown : w3.ownsRow (rb + 1) 55 6 v3 (zs.length + 1) (zs.flatMap enCells ++ enCells (e, vn))) (hg : (w2.alloc o).grownBy w3 v.ownBlock) (hsm : e.path.size ≤ 65536 ∧ e.notes.length ≤ 65536 ∧ e.content.size ≤ 65536) : RdS w rb w3 v3 (zs ++ [(e, vn)]) st2 := by
  have hrb := h.rd.lt
  have hown2 : w2.ownsRow (rb + 1) 55 6 v zs.length (zs.flatMap enCells) := hk.owns h.out.own (fun k hk' hx => by have := (h.out.own.lt k hk').1; unfold At at hx; omega)
  have hk3 : Kept (OwnB v) w2 w3 := ((Kept.refl _ w2).alloc o).grown hg (fun k hk _ => hk)
  have hup : ∀ k, OwnB v k → rb < k := fun k hx => (hown2.lt k hx).1
  have key : ∀ {u : Value} {m : Nat} {xs : List Value} {B : Nat}, w2.ownsRow B 59 2 u m xs → w3.ownsRow B 59 2 u m xs := by
    intro u m xs B hu
    exact hk3.owns hu (fun k hk' hx => by
      obtain ⟨c, hc⟩ := owns_block hu hk'
      exact owns_ne hown2 hc (by decide) k hx rfl)
  refine ⟨⟨?_, ?_, ?_⟩, hr.keep hk3 hup, ?_, h.rbw, ?_⟩
  · rw [List.length_append, List.flatMap_append]
    simpa using hown
  · intro z hz
    rcases List.mem_append.1 hz with hz | hz
    · refine key (hk.owns (h.out.nts z hz) (fun k hk' hx => by have := ((h.out.nts z hz).lt k hk').1; unfold At at hx; omega))
    · rw [List.mem_singleton] at hz
      subst hz
      exact owns_lower (key ho) hrb
  · intro i j hi hj hij k hk1 hk2
    rw [List.length_append, List.length_singleton] at hi hj
    rw [List.getElem_append_left (show i < zs.length by omega)] at hk1
    by_cases h1 : j < zs.length
    · rw [List.getElem_append_left h1] at hk2
      exact h.out.apart i j (by omega) h1 hij k hk1 hk2
    · have hj2 : j = zs.length := by omega
      subst hj2
      rw [List.getElem_append_right (Nat.le_refl _)] at hk2
      simp at hk2
      have a1 := ((h.out.nts zs[i] (List.getElem_mem _)).lt k hk1).2
      have a2 := (ho.lt k hk2).1
      omega
  · exact (h.kept.trans' hk (fun i hi hx => by have := h.rbw; unfold At at hx; omega)).trans' hk3 (fun i hi hx => by have := hup i hx; have := h.rbw; omega)
  · intro z hz
    rcases List.mem_append.1 hz with hz | hz
    · exact h.sm z hz
    · rw [List.mem_singleton] at hz
      subst hz
      exact hsm

def sTreeAns (l : List UInt8) : List En × Int :=
  if l.length > 65536 then ([], 7) else
  if (sAll (l.length + 1) (l, false)).2 = true then ([], 4) else
  if isTreeB (sAll (l.length + 1) (l, false)).1 = false then ([], 4) else ((sAll (l.length + 1) (l, false)).1, 0)
def TreeAns (w w' : World) (r : Ending) (a : List En × Int) : Prop :=
  ∃ v zs ev, r = .returned (.tuple #[v, ev]) ∧ OutTree w' w.heap.size v zs ∧ zs.map (·.1) = a.1 ∧ ((a.2 = 0 ∧ ev = .nilIface) ∨ (a.2 ≠ 0 ∧ FaultAt w' ev a.2)) ∧ Kept NoB w w'
theorem out_nil (w : World) (B : Nat) : OutTree w B (.slice none 0 0) [] := ⟨⟨rfl, .inl ⟨rfl, rfl⟩⟩, fun _ h => (by cases h), fun i _ hi => absurd hi (Nat.not_lt_zero _)⟩
theorem OutTree.lower {w : World} {B C : Nat} {v : Value} {zs : List (En × Value)} (h : OutTree w B v zs) (hC : C ≤ B) : OutTree w C v zs := ⟨owns_lower h.own hC, fun z hz => owns_lower (h.nts z hz) hC, h.apart⟩
theorem OutTree.keepN {w w' : World} {B : Nat} {v : Value} {zs : List (En × Value)} (h : OutTree w B v zs) (hk : Kept NoB w w') : OutTree w' B v zs := ⟨hk.owns h.own (fun _ _ x => x), fun z hz => hk.owns (h.nts z hz) (fun _ _ x => x), h.apart⟩

set_option maxRecDepth 100000 in
set_option maxHeartbeats 16000000 in
theorem Read_any (l : List UInt8) (bv : Value) (m : Int) (w : World) (hm : w.cell? ⟨0, 0, none⟩ = some (.int .i64 m)) (hb : BytesAt w bv l) (hl : l.length ≤ 2000000) :
    Calls Tryd.prog 22 #[bv] w fun r w' => TreeAns w w' r (sTreeAns l) := by
  obtain ⟨ao, cap, rfl⟩ : ∃ ao cap, bv = .slice ao l.length cap := by
    obtain ⟨_, ao, cap, h, _⟩ := hb
    exact ⟨ao, cap, h⟩
  by_cases hbig : 65536 < l.length
  · have HA : Hid (sTreeAns l = ([], 7)) := by unfold Hid sTreeAns; rw [if_pos hbig]
    clear hb hm
    go_enter Tryd.func22, Tryd.ntmps22
    go_wp2_with fail
    go_ret2
    rw [HA.out]
    exact ⟨_, [], _, rfl, out_nil _ _, rfl, .inr ⟨by decide, fault_new w 7 64⟩, (Kept.refl NoB w).alloc _⟩
  · have HM := hide hm
    have HB := hide hb
    clear hm hb
    obtain ⟨A, hA⟩ : ∃ A, A = sAll (l.length + 1) (l, false) := ⟨_, rfl⟩
    have HAN : Hid (sTreeAns l = if A.2 = true then ([], 4) else if isTreeB A.1 = false then ([], 4) else (A.1, 0)) := by
      unfold Hid sTreeAns
      rw [if_neg hbig, hA]
    have HAA := hide hA
    clear hA
    obtain ⟨rb, hrb⟩ : ∃ rb, rb = w.heap.size := ⟨_, rfl⟩
    go_enter Tryd.func22, Tryd.ntmps22
    go_wp2_with fail
    have hS0 : RdS w rb (w.alloc (.cells #[.slice ao l.length cap, .bool false] 81)) (.slice none 0 0) [] (l, false) := by
      refine ⟨out_nil _ _, ⟨.slice ao l.length cap, by rw [hrb]; exact heap_alloc_new w _, CellsAt.keptN HB.out (by decide) ((Kept.refl NoB w).alloc _), fun h0 k hk => ?_⟩, (Kept.refl NoB w).alloc _, hrb, fun _ h => by cases h⟩
      obtain ⟨_, ao', cap', e, _, h4⟩ := HB.out
      cases e
      replace h0 : 0 < l.length := h0
      obtain ⟨b, o, e2, h5⟩ := h4 h0
      rw [e2] at hk
      cases hk
      rw [hrb]
      have h6 := h5 0 (by omega)
      rw [byteL_at l 0 h0] at h6
      exact World.block_lt_of_cell? w _ h6
    rw [← hrb]
    have HS0 := hide hS0
    generalize w.alloc (.cells #[.slice ao l.length cap, .bool false] 81) = W0 at *
    have HRB := hide hrb
    clear hS0 hrb
    go_loopw [5] (fun u wr => ∃ (zs : List (En × Value)) (st : List UInt8 × Bool) (ao1 : Option Addr) (cap1 f : Nat), u = .slice ao1 zs.length cap1 ∧ zs.length + st.1.length ≤ l.length ∧ st.1.length < f ∧ Hid (A.1 = zs.map (·.1) ++ (sAll f st).1 ∧ A.2 = (sAll f st).2) ∧ Hid (RdS w rb wr (.slice ao1 zs.length cap1) zs st)) (fun _ wr => match wr.cell? ⟨rb, 0, none⟩ with | some (.slice _ n _) => n | _ => 0)
    case atStart => exact ⟨[], (l, false), none, 0, l.length + 1, rfl, by simp, by simp, by rw [HAA.out]; exact hide ⟨rfl, rfl⟩, HS0⟩
    case round =>
      clear HS0
      obtain ⟨zs, st, ao1, cap1, f, rfl, hlen, hf, heq, hS⟩ := hrel
      obtain ⟨l0, b0⟩ := st
      simp only at hlen hf
      have hrd := hS.out.rd
      obtain ⟨rv, r1, r2, r3⟩ := hrd
      obtain ⟨rao, rcap, hrv, _, _⟩ := r2.2
      rw [hrv] at r1
      obtain ⟨c0, c1, c2⟩ := row2 r1
      simp only at c0 c1
      clear r1 r2 r3 hrv
      by_cases hlt : 0 < l0.length
      · have hne : l0 ≠ [] := List.length_pos_iff.1 hlt
        have HC0 := hide c0
        have HE := hide (rentry_any (l0, b0) rb wr (by simp only; omega) hS.out.rd)
        have hdec := sEnt_dec (l0, b0) hne
        obtain ⟨sm1, sm2, sm3⟩ := sEnt_small (l0, b0)
        simp only at sm1 sm2 sm3 hdec
        obtain ⟨f, rfl⟩ : ∃ f', f = f' + 1 := ⟨f - 1, by omega⟩
        have HSA : Hid (sAll (f + 1) (l0, b0) = ((sEnt (l0, b0)).1 :: (sAll f (sEnt (l0, b0)).2).1, (sAll f (sEnt (l0, b0)).2).2)) := by
          unfold Hid
          rw [sAll, if_neg hne]
        generalize sEnt (l0, b0) = E at *
        obtain ⟨en, st2⟩ := E
        simp only at HE sm1 sm2 sm3 hdec HSA
        unfold enVal at HE
        go_wp2_with fail
        refine HE.out.mono ?_
        rintro r w2 ⟨vn, rfl, ho2, hr2, hk2⟩
        obtain ⟨nao, ncap, rfl⟩ := owns_shape ho2
        have HO2 := hide ho2
        have HR2 := hide hr2
        have HK2 := hide hk2
        have hown2 : w2.ownsRow (rb + 1) 55 6 (.slice ao1 zs.length cap1) zs.length (zs.flatMap enCells) := hk2.owns hS.out.out.own (fun k hk' hx => by have := (hS.out.out.own.lt k hk').1; unfold At at hx; omega)
        have HW2 := hide hown2
        have hrb2 := hr2.lt
        clear ho2 hr2 hk2 hown2 HE c0 c1 c2
        go_wp2_with (at_builtin; refine wpList_append2 _ rfl (.tmp 18) (.tmp 20) 22 22 rfl (rb + 1) 55 zeroEn 6 80 Tryd.underlying22 info55 rfl (.slice ao1 zs.length cap1) zs.length _ rfl (HW2.out.alloc _) (.slice (some ⟨w2.heap.size, 0, none⟩) 1 1) 1 (enCells (en, .slice nao en.notes.length ncap)) rfl (Src.ofSlice _ Tryd.underlying22 _ 1 1 _ rfl (row_new' _ _ _ _ _ rfl (by simp)) (by intro u hu; simp [enCells] at hu; rcases hu with rfl | rfl | rfl | rfl | rfl | rfl <;> rfl)) (by omega) (by unfold maxLen; omega) (by simp; omega) ?_; intro v' w3 hown' hold' hg3 hl3; obtain ⟨ao3, cap3, rfl⟩ := owns_shape hown')
        have HP := hide (hS.out.push HK2.out HO2.out HR2.out hown' hg3 (by omega))
        go_roundw
        case rel =>
          refine ⟨zs ++ [(en, .slice nao en.notes.length ncap)], st2, ao3, cap3, f, by simp, by simp; omega, by omega, hide ?_, hide (by simpa using HP.out)⟩
          rw [heq.out.1, heq.out.2, HSA.out]
          simp
        case measure =>
          obtain ⟨rv3, q1, q2, _⟩ := HP.out.rd
          obtain ⟨qao, qcap, hq, _, _⟩ := q2.2
          rw [hq] at q1
          have q3 := (row2 q1).1
          rw [HC0.out, q3]
          exact hdec
      · have hl0 : l0 = [] := List.eq_nil_of_length_eq_zero (by omega)
        subst hl0
        have hsa : sAll f ([], b0) = ([], b0) := by
          obtain ⟨f, rfl⟩ : ∃ f', f = f' + 1 := ⟨f - 1, by omega⟩
          rw [sAll, if_pos rfl]
        have hA1 : A.1 = zs.map (·.1) := by rw [heq.out.1, hsa]; simp
        have hA2 : A.2 = b0 := by rw [heq.out.2, hsa]
        have HAN2 := hide HAN.out
        rw [hA1, hA2] at HAN2
        clear hsa hA1 hA2 heq
        cases b0
        · have HIT := hide (isTree_any zs (.slice ao1 zs.length cap1) m wr (hS.out.kept.cellN HM.out) hS.out.ents (by omega) (fun z hz => by have := (hS.out.sm z hz).1; omega) (fun z hz => by have := (hS.out.sm z hz).2.1; omega) (fun z hz => by have := (hS.out.sm z hz).2.2; omega))
          rw [tree_eq] at HIT
          cases hT : isTreeB (zs.map (·.1))
          · rw [hT] at HIT
            have HF : Hid (sTreeAns l = ([], 4)) := by unfold Hid; rw [HAN2.out, hT]; rfl
            clear hT
            go_wp2_with fail
            refine HIT.out.mono ?_
            rintro r w2 ⟨rfl, hk2⟩
            have HK2 := hide hk2
            clear hk2
            go_wp2_with fail
            go_ret2
            rw [HF.out]
            exact ⟨_, [], _, rfl, out_nil _ _, rfl, .inr ⟨by decide, fault_new w2 4 64⟩, (hS.out.kept.trans HK2.out).alloc _⟩
          · rw [hT] at HIT
            have HF : Hid (sTreeAns l = (zs.map (·.1), 0)) := by unfold Hid; rw [HAN2.out, hT]; rfl
            clear hT
            go_wp2_with fail
            refine HIT.out.mono ?_
            rintro r w2 ⟨rfl, hk2⟩
            have HK2 := hide hk2
            clear hk2
            go_wp2_with fail
            go_ret2
            rw [HF.out]
            exact ⟨_, zs, _, rfl, (hS.out.out.keepN HK2.out).lower (by rw [HRB.out]; omega), rfl, .inl ⟨rfl, rfl⟩, hS.out.kept.trans HK2.out⟩
        · have HF : Hid (sTreeAns l = ([], 4)) := by unfold Hid; rw [HAN2.out]; rfl
          go_wp2_with fail
          go_ret2
          rw [HF.out]
          exact ⟨_, [], _, rfl, out_nil _ _, rfl, .inr ⟨by decide, fault_new wr 4 64⟩, hS.out.kept.alloc _⟩

set_option maxRecDepth 100000 in
set_option maxHeartbeats 8000000 in
theorem Tree_any0 (l : List UInt8) (bv : Value) (m : Int) (w : World) (hm : w.cell? ⟨0, 0, none⟩ = some (.int .i64 m)) (hb : BytesAt w bv l) (hl : l.length ≤ 2000000) :
    Calls Tryd.prog 12 #[bv] w fun r w' => TreeAns w w' r (sTreeAns l) := by
  have HW := hide (Read_any l bv m w hm hb hl)
  clear hm hb
  go_enter Tryd.func12, Tryd.ntmps12
  go_wp2_with fail
  refine HW.out.mono ?_
  rintro r w1 ⟨v, zs, ev, rfl, h1, h2, h3, h4⟩
  have HB := hide (And.intro h1 (And.intro h2 (And.intro h3 h4)))
  clear h1 h2 h3 h4
  go_wp2_with fail
  go_ret2
  exact ⟨_, zs, _, rfl, HB.out.1, HB.out.2.1, HB.out.2.2.1, HB.out.2.2.2⟩
end Go.Proofs.YtbmmcdofanajcaaDoor
