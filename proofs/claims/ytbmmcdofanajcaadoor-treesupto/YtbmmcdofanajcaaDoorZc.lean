import Derived.Test.YtbmmcdofanajcaaDoorZb
namespace Go.Proofs.YtbmmcdofanajcaaDoor
open Go.RowKit

theorem ReadAt.keep {S : Nat → Prop} {w w' : World} {rb : Nat} {s : List UInt8 × Bool} (h : ReadAt w rb s) (hk : Kept S w w') (hS : ∀ k, S k → rb < k) : ReadAt w' rb s := by
  obtain ⟨rv, h1, h2, h3⟩ := h
  refine ⟨rv, hk.heap h1 (fun hx => by have := hS rb hx; omega), ?_, h3⟩
  rcases Nat.eq_zero_or_pos s.1.length with h0 | h0
  · obtain ⟨a1, ao, cap, a2, a3, _⟩ := h2
    exact ⟨a1, ao, cap, a2, a3, fun hx => by omega⟩
  · exact CellsAt.kept h2 (by decide) hk (fun k hk' hx => by have := h3 h0 k hk'; have := hS k hx; omega)
theorem ReadAt.lt {w : World} {rb : Nat} {s : List UInt8 × Bool} (h : ReadAt w rb s) : rb < w.heap.size := by
  obtain ⟨rv, h1, _⟩ := h
  exact (Array.getElem?_eq_some_iff.1 h1).1

def sNotes : Nat → (List UInt8 × Bool) → List Nt × (List UInt8 × Bool)
  | 0, s => ([], s)
  | c + 1, s => (⟨⟨(stext 1 s).1.toArray⟩, ⟨(stext 1 (stext 1 s).2).1.toArray⟩⟩ :: (sNotes c (stext 1 (stext 1 s).2).2).1, (sNotes c (stext 1 (stext 1 s).2).2).2)
theorem stake_len (n : Nat) (s : List UInt8 × Bool) : (stake n s).2.1.length ≤ s.1.length := by unfold stake; simp
theorem snum_len (n : Nat) (s : List UInt8 × Bool) : (snum n s).2.1.length ≤ s.1.length := stake_len n s
theorem stext_len (n : Nat) (s : List UInt8 × Bool) : (stext n s).2.1.length ≤ s.1.length := Nat.le_trans (stake_len _ _) (snum_len n s)
theorem snum_byte (s : List UInt8 × Bool) : (snum 1 s).1 < 256 := by
  have h1 := numOf_lt (stake 1 s).1
  have h2 : (stake 1 s).1.length ≤ 1 := by unfold stake; simp; omega
  have h3 : 256 ^ (stake 1 s).1.length ≤ 256 ^ 1 := Nat.pow_le_pow_right (by decide) h2
  have : (snum 1 s).1 = numOf (stake 1 s).1 := rfl
  omega

set_option maxRecDepth 100000 in
set_option maxHeartbeats 8000000 in
theorem rnotes_any (s : List UInt8 × Bool) (rb : Nat) (w : World) (hs : s.1.length ≤ 100000000) (hr : ReadAt w rb s) :
    Calls Tryd.prog 42 #[.pointer (some ⟨rb, 0, none⟩)] w fun e w' => ∃ v ns, ns = (sNotes (snum 1 s).1 (snum 1 s).2).1 ∧ e = .returned v ∧ w'.ownsRow w.heap.size 59 2 v ns.length (ns.flatMap ntCells) ∧ ReadAt w' rb (sNotes (snum 1 s).1 (snum 1 s).2).2 ∧ Kept (At rb) w w' := by
  have hrb := hr.lt
  have HN := hide (number_any 1 s rb w hs (by omega) hr)
  clear hr
  have hsm := snum_byte s
  have hl2 := snum_len 1 s
  generalize snum 1 s = S at *
  obtain ⟨c, s2⟩ := S
  simp only at hsm hl2 HN ⊢
  go_enter Tryd.func42, Tryd.ntmps42
  go_wp2_with fail
  refine HN.out.mono ?_
  rintro r w1 ⟨rfl, hr1, hk1⟩
  have HR := hide (And.intro hr1 hk1)
  clear hr1 hk1 HN
  go_wp2_with fail
  go_loopw [3, 7] (fun u i wr => ∃ (k : Nat) (ns : List Nt) (st : List UInt8 × Bool) (ao : Option Addr) (cap : Nat), k ≤ c ∧ i = .int .i64 k ∧ u = .slice ao k cap ∧ ns.length = k ∧ st.1.length ≤ 100000000 ∧ Hid ((sNotes c s2).1 = ns ++ (sNotes (c - k) st).1 ∧ (sNotes c s2).2 = (sNotes (c - k) st).2) ∧ Hid (wr.ownsRow w.heap.size 59 2 (.slice ao k cap) k (ns.flatMap ntCells)) ∧ Hid (ReadAt wr rb st) ∧ Hid (Kept (At rb) w wr)) (fun _ i _ => c - (intOf i).toNat)
  case atStart => exact ⟨0, [], s2, none, 0, by omega, rfl, rfl, rfl, by omega, ⟨rfl, rfl⟩, ⟨rfl, .inl ⟨rfl, rfl⟩⟩, HR.out.1, HR.out.2⟩
  case round =>
    clear HR
    obtain ⟨k, ns, st, ao, cap, hk, rfl, rfl, hnl, hsl, heq, hown, hrd, hkept⟩ := hrel
    by_cases hlt : k < c
    · have HT1 := hide (text_any 1 st rb wr hsl (by omega) hrd.out)
      have hl3 := stext_len 1 st
      have HSN : Hid (sNotes (c - k) st = (⟨⟨(stext 1 st).1.toArray⟩, ⟨(stext 1 (stext 1 st).2).1.toArray⟩⟩ :: (sNotes (c - (k + 1)) (stext 1 (stext 1 st).2).2).1, (sNotes (c - (k + 1)) (stext 1 (stext 1 st).2).2).2)) := by
        unfold Hid
        rw [show c - k = (c - (k + 1)) + 1 by omega]
        rfl
      generalize stext 1 st = S1 at *
      obtain ⟨x, st1⟩ := S1
      simp only at hl3 HT1 HSN
      go_wp2_with fail
      refine HT1.out.mono ?_
      rintro r w2 ⟨rfl, hr2, hk2⟩
      have HT2 := hide (text_any 1 st1 rb w2 (by omega) (by omega) hr2)
      have HK2 := hide hk2
      have hl4 := stext_len 1 st1
      generalize stext 1 st1 = S2 at *
      obtain ⟨y, st2⟩ := S2
      simp only at hl4 HT2 HSN
      clear HT1 hr2 hk2
      go_wp2_with fail
      refine HT2.out.mono ?_
      rintro r w3 ⟨rfl, hr3, hk3⟩
      have HR3 := hide hr3
      have HK3 := hide (hkept.out.trans (HK2.out.trans hk3))
      have hrow : w3.ownsRow w.heap.size 59 2 (.slice ao k cap) k (ns.flatMap ntCells) := (HK2.out.trans hk3).owns hown.out (fun j hj hx => by
        have := (hown.out.lt j hj).1
        unfold At at hx
        omega)
      have HRW := hide hrow
      have hsz := HK3.out.size
      clear hr3 hk3 hrow HT2
      go_wp2_with (at_builtin; refine wpList_append2 _ rfl (.tmp 11) (.tmp 16) 53 53 rfl w.heap.size 59 (.agg #[.string ByteArray.empty, .string ByteArray.empty]) 2 32 Tryd.underlying53 info59 rfl (.slice ao k cap) k _ rfl (HRW.out.alloc _) (.slice (some ⟨w3.heap.size, 0, none⟩) 1 1) 1 [.string ⟨x.toArray⟩, .string ⟨y.toArray⟩] rfl (Src.ofSlice _ Tryd.underlying53 _ 1 1 _ rfl (row_new' _ _ _ _ _ rfl rfl) (by intro u hu; simp at hu; rcases hu with rfl | rfl <;> rfl)) (by omega) (by unfold maxLen; omega) (by simp; omega) ?_; intro v' w4 hown' hold' hg4 hl5; obtain ⟨ao4, cap4, rfl⟩ := owns_shape hown')
      go_roundw
      case rel =>
        have hk4 : Kept (fun j => w.heap.size ≤ j) w3 w4 := ((Kept.refl _ w3).alloc _).grown hg4 (fun j hj _ => (HRW.out.lt j hj).1)
        refine ⟨k + 1, ns ++ [⟨⟨x.toArray⟩, ⟨y.toArray⟩⟩], st2, ao4, cap4, by omega, by go_num, rfl, by simp [hnl], by omega, hide ?_, hide ?_, hide (HR3.out.keep hk4 (fun j hj => by omega)), hide (HK3.out.trans' hk4 (fun j hj hx => by omega))⟩
        · rw [heq.out.1, heq.out.2, HSN.out]
          simp
        · rw [List.flatMap_append]
          exact hown'
      case measure => simp [intOf]; omega
    · obtain rfl : k = c := by omega
      have HE := heq.out
      rw [Nat.sub_self] at HE
      have HEE := hide HE
      clear HE
      go_wp2_with fail
      go_ret
      refine ⟨_, ns, ?_, rfl, ?_, ?_, hkept.out⟩
      · rw [HEE.out.1]; simp [sNotes]
      · rw [hnl]; exact hown.out
      · rw [HEE.out.2]; exact hrd.out
end Go.Proofs.YtbmmcdofanajcaaDoor
