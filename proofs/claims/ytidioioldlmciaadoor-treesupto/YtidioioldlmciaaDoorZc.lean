import Derived.Test.YtidioioldlmciaaDoorZb
namespace Go.Proofs.YtidioioldlmciaaDoor
open Go.RowKit

theorem owns_type {w : World} {B : Nat} {e : TypeId} {sz : Nat} {v : Value} {n : Nat} {xs : List Value} {j : Nat} (h : w.ownsRow B e sz v n xs) (hj : v.ownBlock = some j) : ∃ c, w.heap[j]? = some (.cells c e (0, 0)) := by
  rcases h.2 with ⟨rfl, _⟩ | ⟨g, cap, cur, rfl, _, hg, _⟩
  · cases hj
  · cases hj
    exact ⟨cur, hg⟩
theorem ReadAt.grows {w w' : World} {rb : Nat} {l : List UInt8} {d : En} {dv : Value} {s : List UInt8 × Bool} {B : Nat} {e : TypeId} {sz : Nat} {v : Value} {n : Nat} {xs : List Value} (h : ReadAt w rb l d dv s) (ho : w.ownsRow B e sz v n xs) (he : e ≠ 64) (hB : rb < B) (hk : Kept (fun j => v.ownBlock = some j) w w') : ReadAt w' rb l d dv s := by
  refine h.keep hk (fun k hx => ⟨?_, fun c hc => ?_⟩)
  · have := (ho.lt k hx).1; omega
  · obtain ⟨c2, h2⟩ := owns_type ho hx
    rw [h2] at hc
    injection hc with hc
    injection hc with _ hc
    exact he hc

def nNotes : Nat → (List UInt8 × Bool) → List Nt × (List UInt8 × Bool)
  | 0, s => ([], s)
  | c + 1, s => (⟨⟨(ntext 1 s).1.toArray⟩, ⟨(ntext 1 (ntext 1 s).2).1.toArray⟩⟩ :: (nNotes c (ntext 1 (ntext 1 s).2).2).1, (nNotes c (ntext 1 (ntext 1 s).2).2).2)
theorem nnum_byte (s : List UInt8 × Bool) : (nnum 1 s).1 < 256 := by
  have h1 := numOf_lt (ntake 1 s).1
  have h2 := ntake_le 1 s
  have h3 : 256 ^ (ntake 1 s).1.length ≤ 256 ^ 1 := Nat.pow_le_pow_right (by decide) h2
  have : (nnum 1 s).1 = numOf (ntake 1 s).1 := rfl
  omega

set_option maxRecDepth 100000 in
set_option maxHeartbeats 8000000 in
theorem rnotes_any (s : List UInt8 × Bool) {rb : Nat} {l : List UInt8} {d : En} {dv : Value} (w : World) (hl : l.length ≤ 100000000) (hr : ReadAt w rb l d dv s) :
    Calls Tryd.prog 44 #[.pointer (some ⟨rb, 0, none⟩)] w fun e w' => ∃ v ns, ns = (nNotes (nnum 1 s).1 (nnum 1 s).2).1 ∧ e = .returned v ∧ w'.ownsRow w.heap.size 59 2 v ns.length (ns.flatMap ntCells) ∧ ReadAt w' rb l d dv (nNotes (nnum 1 s).1 (nnum 1 s).2).2 ∧ Kept (At rb) w w' := by
  have hrb := hr.lt
  have HN := hide (number_any 1 s w (by omega) hl hr)
  clear hr
  have hsm := nnum_byte s
  generalize nnum 1 s = S at *
  obtain ⟨c, s2⟩ := S
  simp only at hsm HN ⊢
  go_enter Tryd.func44, Tryd.ntmps44
  go_wp2_with fail
  refine HN.out.mono ?_
  rintro r w1 ⟨rfl, hr1, hk1⟩
  have HR := hide (And.intro hr1 hk1)
  clear hr1 hk1 HN
  go_wp2_with fail
  go_loopw [3, 7] (fun u i wr => ∃ (k : Nat) (ns : List Nt) (st : List UInt8 × Bool) (ao : Option Addr) (cap : Nat), k ≤ c ∧ i = .int .i64 k ∧ u = .slice ao k cap ∧ ns.length = k ∧ Hid ((nNotes c s2).1 = ns ++ (nNotes (c - k) st).1 ∧ (nNotes c s2).2 = (nNotes (c - k) st).2) ∧ Hid (wr.ownsRow w.heap.size 59 2 (.slice ao k cap) k (ns.flatMap ntCells)) ∧ Hid (ReadAt wr rb l d dv st) ∧ Hid (Kept (At rb) w wr)) (fun _ i _ => c - (intOf i).toNat)
  case atStart => exact ⟨0, [], s2, none, 0, by omega, rfl, rfl, rfl, ⟨rfl, rfl⟩, ⟨rfl, .inl ⟨rfl, rfl⟩⟩, HR.out.1, HR.out.2⟩
  case round =>
    clear HR
    obtain ⟨k, ns, st, ao, cap, hk, rfl, rfl, hnl, heq, hown, hrd, hkept⟩ := hrel
    by_cases hlt : k < c
    · have HT1 := hide (words_any 1 st wr (by omega) hl hrd.out)
      have HSN : Hid (nNotes (c - k) st = (⟨⟨(ntext 1 st).1.toArray⟩, ⟨(ntext 1 (ntext 1 st).2).1.toArray⟩⟩ :: (nNotes (c - (k + 1)) (ntext 1 (ntext 1 st).2).2).1, (nNotes (c - (k + 1)) (ntext 1 (ntext 1 st).2).2).2)) := by
        unfold Hid
        rw [show c - k = (c - (k + 1)) + 1 by omega]
        rfl
      generalize ntext 1 st = S1 at *
      obtain ⟨x, st1⟩ := S1
      simp only at HT1 HSN
      go_wp2_with fail
      refine HT1.out.mono ?_
      rintro r w2 ⟨rfl, hr2, hk2⟩
      have HT2 := hide (words_any 1 st1 w2 (by omega) hl hr2)
      have HK2 := hide hk2
      generalize ntext 1 st1 = S2 at *
      obtain ⟨y, st2⟩ := S2
      simp only at HT2 HSN
      clear HT1 hr2 hk2
      go_wp2_with fail
      refine HT2.out.mono ?_
      rintro r w3 ⟨rfl, hr3, hk3⟩
      have HR3 := hide hr3
      have HK3 := hide (hkept.out.trans (HK2.out.trans hk3))
      have hrow : w3.ownsRow w.heap.size 59 2 (.slice ao k cap) k (ns.flatMap ntCells) := (HK2.out.trans hk3).owns hown.out (fun j hj hx => by
        have := (hown.out.lt j hj).1
        unfold At at hx
        omega)
      have HRW := hide hrow
      have hsz := HK3.out.size
      clear hr3 hk3 hrow HT2
      go_wp2_with (at_builtin; refine wpList_append2 _ rfl (.tmp 11) (.tmp 16) 53 53 rfl w.heap.size 59 (.agg #[.string ByteArray.empty, .string ByteArray.empty]) 2 32 Tryd.underlying53 info59 rfl (.slice ao k cap) k _ rfl (HRW.out.alloc _) (.slice (some ⟨w3.heap.size, 0, none⟩) 1 1) 1 [.string ⟨x.toArray⟩, .string ⟨y.toArray⟩] rfl (Src.ofSlice _ Tryd.underlying53 _ 1 1 _ rfl (row_new' _ _ _ _ _ rfl rfl) (by intro u hu; simp at hu; rcases hu with rfl | rfl <;> rfl)) (by omega) (by unfold maxLen; omega) (by simp; omega) ?_; intro v' w4 hown' hold' hg4 hl5; obtain ⟨ao4, cap4, rfl⟩ := owns_shape hown')
      go_roundw
      case rel =>
        have hk4 : Kept (fun j => (Value.slice ao k cap).ownBlock = some j) w3 w4 := ((Kept.refl _ w3).alloc _).grown hg4 (fun j hj _ => hj)
        refine ⟨k + 1, ns ++ [⟨⟨x.toArray⟩, ⟨y.toArray⟩⟩], st2, ao4, cap4, by omega, by go_num, rfl, by simp [hnl], hide ?_, hide ?_, hide (HR3.out.grows HRW.out (by decide) hrb hk4), hide (HK3.out.trans' hk4 (fun j hj hx => by have := (HRW.out.lt j hx).1; omega))⟩
        · rw [heq.out.1, heq.out.2, HSN.out]
          simp
        · rw [List.flatMap_append]
          exact hown'
      case measure => simp [intOf]; omega
    · obtain rfl : k = c := by omega
      have HE := heq.out
      rw [Nat.sub_self] at HE
      have HEE := hide HE
      clear HE
      go_wp2_with fail
      go_ret
      refine ⟨_, ns, ?_, rfl, ?_, ?_, hkept.out⟩
      · rw [HEE.out.1]; simp [nNotes]
      · rw [hnl]; exact hown.out
      · rw [HEE.out.2]; exact hrd.out
end Go.Proofs.YtidioioldlmciaaDoor
