import Derived.Test.YtidioioldlmciaaDoorS
import Derived.Test.YtidioioldlmciaaDoorShelf
namespace Go.Proofs.YtidioioldlmciaaDoor
open Go.RowKit

theorem split_cut (l : List UInt8) : (∀ c ∈ l, c ≠ 47) ∨ ∃ a b, l = a ++ 47 :: b ∧ ∀ c ∈ a, c ≠ 47 := by
  induction l with
  | nil => left; simp
  | cons c r ih =>
    by_cases hc : c = 47
    · right; exact ⟨[], r, by simp [hc], by simp⟩
    · rcases ih with h | ⟨a, b, rfl, h⟩
      · left; intro x hx; rcases List.mem_cons.1 hx with rfl | h1
        · exact hc
        · exact h x h1
      · right; refine ⟨c :: a, b, rfl, fun x hx => ?_⟩
        rcases List.mem_cons.1 hx with rfl | h1
        · exact hc
        · exact h x h1
theorem index_sep (a b : List UInt8) (h : ∀ c ∈ a, c ≠ 47) : Lib.index (a ++ 47 :: b) [47] = (a.length : Int) := by
  induction a with
  | nil => simp [Lib.index]
  | cons c a ih =>
    have h1 := ih (fun x hx => h x (by simp [hx]))
    have h3 : ¬ (47 : UInt8) = c := fun e => h c (by simp) e.symm
    have h4 : ¬ (a.length : Int) = -1 := by omega
    simp [Lib.index, h1, h3, h4]
theorem index_miss (a : List UInt8) (h : ∀ c ∈ a, c ≠ 47) : Lib.index a [47] = -1 := by
  induction a with
  | nil => simp [Lib.index]
  | cons c a ih =>
    have h1 := ih (fun x hx => h x (by simp [hx]))
    have h3 : ¬ (47 : UInt8) = c := fun e => h c (by simp) e.symm
    simp [Lib.index, h1, h3]
theorem split_eq : ∀ (n : Nat) (l : List UInt8), l.length ≤ n → Lib.splitK [47] 0 (Lib.count l [47]) l = splitS l := by
  intro n
  induction n with
  | zero =>
    intro l hl
    obtain rfl : l = [] := List.eq_nil_of_length_eq_zero (by omega)
    rw [Lib.count_miss (index_miss [] (by simp))]
    rfl
  | succ n ih =>
    intro l hl
    rcases split_cut l with h | ⟨a, b, rfl, h⟩
    · rw [Lib.count_miss (index_miss l h), splitS_end l h]; rfl
    · have hi := index_sep a b h
      have hd : (a ++ 47 :: b).drop (a.length + 1) = b := by
        have : a ++ 47 :: b = (a ++ [47]) ++ b := by simp
        rw [this, List.drop_left' (by simp)]
      rw [Lib.count_hit (by simp) hi, Nat.add_comm 1, Lib.splitK, hi, if_neg (by simp), splitS_sep a b h]
      have ht : ((a.length : Int)).toNat = a.length := by omega
      rw [ht, show ([47] : List UInt8).length = 1 from rfl, hd, ih b (by simp at hl; omega)]
      simp
theorem splitB_eq (s : ByteArray) : (Lib.splitB ⟨#[47]⟩ 0 (Lib.countB s ⟨#[47]⟩) s).map Value.string = (splitS s.data.toList).map mkS := by
  have h := Lib.splitB_data ⟨#[47]⟩ 0 (Lib.countB s ⟨#[47]⟩) s
  have h2 : Lib.splitK [47] 0 (Lib.countB s ⟨#[47]⟩) s.data.toList = splitS s.data.toList := split_eq _ _ (Nat.le_refl _)
  rw [← h2]
  rw [show ((⟨#[47]⟩ : ByteArray).data.toList) = [47] from rfl] at h
  rw [← h, List.map_map]
  rfl
theorem split_count : ∀ (n : Nat) (l : List UInt8), l.length ≤ n → Lib.count l [47] + 1 = (splitS l).length := by
  intro n
  induction n with
  | zero =>
    intro l hl
    obtain rfl : l = [] := List.eq_nil_of_length_eq_zero (by omega)
    rw [Lib.count_miss (index_miss [] (by simp))]
    rfl
  | succ n ih =>
    intro l hl
    rcases split_cut l with h | ⟨a, b, rfl, h⟩
    · rw [Lib.count_miss (index_miss l h), splitS_end l h]; rfl
    · have hi := index_sep a b h
      have hd : (a ++ 47 :: b).drop (a.length + 1) = b := by
        have : a ++ 47 :: b = (a ++ [47]) ++ b := by simp
        rw [this, List.drop_left' (by simp)]
      rw [Lib.count_hit (by simp) hi, splitS_sep a b h, show ([47] : List UInt8).length = 1 from rfl, hd, List.length_cons, ← ih b (by simp at hl; omega)]
      omega
theorem splitB_len (s : ByteArray) : Lib.countB s ⟨#[47]⟩ + 1 = (splitS s.data.toList).length := split_count _ _ (Nat.le_refl _)

/-- strings.Split at one sign -/
theorem Split_any (s : ByteArray) (m : Int) (w : World) (hs : s.size < 4294967281) (hm : w.cell? ⟨0, 0, none⟩ = some (.int .i64 m)) :
    Calls Tryd.prog 55 #[.string s, .string ⟨#[47]⟩] w fun e w' => e = .returned (.slice (some ⟨w.heap.size, 0, none⟩) (splitS s.data.toList).length (splitS s.data.toList).length) ∧ w' = w.alloc (.cells ((splitS s.data.toList).map mkS).toArray 9) := by
  have h := Tryd.strings_Split s ⟨#[47]⟩ m w hs hm (by decide)
  rw [splitB_eq, splitB_len] at h
  exact h

set_option maxRecDepth 100000 in
set_option maxHeartbeats 4000000 in
theorem within_any (n lo hi : Int) (w : World) : Calls Tryd.prog 51 #[.int .i64 n, .int .i64 lo, .int .i64 hi] w fun e w' => e = .returned (.bool (decide (lo ≤ n) && decide (n ≤ hi))) ∧ w' = w := by
  by_cases h1 : lo ≤ n
  · by_cases h2 : n ≤ hi
    all_goals
      go_enter Tryd.func51, Tryd.ntmps51
      go_wp2_with fail
      go_ret
      simp [h1, h2]
  · go_enter Tryd.func51, Tryd.ntmps51
    go_wp2_with fail
    go_ret
    have h2 : decide (lo ≤ n) = false := by simp; omega
    rw [h2]
    exact ⟨rfl, rfl⟩

set_option maxRecDepth 100000 in
set_option maxHeartbeats 4000000 in
theorem isContent_any (k : Int) (c : ByteArray) (w : World) : Calls Tryd.prog 53 #[.int .i64 k, .int .i64 c.size] w fun e w' => e = .returned (.bool (kindOk k c)) ∧ w' = w := by
  by_cases h0 : k = 0
  · subst h0
    go_enter Tryd.func53, Tryd.ntmps53
    go_wp2_with fail
    go_ret
    simp [kindOk]
  · have g0 : (k == 0) = false := by simpa using h0
    by_cases h1 : k = 1
    · subst h1
      have g1 : ((c.size : Int) == 0) = decide (c.size = 0) := by
        rw [Bool.eq_iff_iff, beq_iff_eq, decide_eq_true_iff]
        omega
      go_enter Tryd.func53, Tryd.ntmps53
      go_wp2_with fail
      go_ret
      simp [kindOk]
    · have g1 : (k == 1) = false := by simpa using h1
      by_cases h2 : k = 2
      · subst h2
        go_enter Tryd.func53, Tryd.ntmps53
        go_wp2_with fail
        refine (within_any c.size 1 64 w).mono ?_
        rintro r w1 ⟨rfl, rfl⟩
        go_wp2_with fail
        go_ret
        refine ⟨?_, rfl⟩
        have e1 : decide ((1 : Int) ≤ (c.size : Int)) = decide (1 ≤ c.size) := decide_eq_decide.2 (by omega)
        have e2 : decide ((c.size : Int) ≤ 64) = decide (c.size ≤ 64) := decide_eq_decide.2 (by omega)
        simp only [kindOk]
        rw [e1, e2]
        rfl
      · have g2 : (k == 2) = false := by simpa using h2
        go_enter Tryd.func53, Tryd.ntmps53
        go_wp2_with fail
        go_ret
        simp [kindOk, h0, h1, h2]

theorem index0 (l : List UInt8) : (Lib.indexByte l 0 < 0 ∧ l.all (· != 0) = true) ∨ (0 ≤ Lib.indexByte l 0 ∧ l.all (· != 0) = false) := by
  induction l with
  | nil => left; simp [Lib.indexByte]
  | cons c l ih =>
    by_cases hc : c = 0
    · right; simp [Lib.indexByte, hc]
    · rcases ih with ⟨h1, h2⟩ | ⟨h1, h2⟩
      · left
        have h3 : Lib.indexByte l 0 = -1 := by have := Lib.indexByte_ge l 0; omega
        have h4 : (c != 0) = true := by simpa using hc
        have h5 : (c == 0) = false := by simpa using hc
        simp only [Lib.indexByte, h3, List.all_cons, h2, h4, h5]
        decide
      · right
        have h3 : (Lib.indexByte l 0 == -1) = false := by simp; omega
        have h5 : (c == 0) = false := by simpa using hc
        simp only [Lib.indexByte, h3, List.all_cons, h2, h5]
        simp
        omega
theorem part_cases (p : ByteArray) : (goodPart p.data.toList = false ∧ (decide ((1 : Int) ≤ (p.size : Int)) && decide ((p.size : Int) ≤ 16)) = false) ∨
    ((decide ((1 : Int) ≤ (p.size : Int)) && decide ((p.size : Int) ≤ 16)) = true ∧ ((goodPart p.data.toList = false ∧ (p.toList == [46]) = true) ∨ ((p.toList == [46]) = false ∧ ((goodPart p.data.toList = false ∧ (p.toList == [46, 46]) = true) ∨
      ((p.toList == [46, 46]) = false ∧ ((goodPart p.data.toList = true ∧ Lib.indexByte p.data.toList 0 < 0) ∨ (goodPart p.data.toList = false ∧ ¬ Lib.indexByte p.data.toList 0 < 0))))))) := by
  rw [ByteArray.toList_eq, Lib.size_eq]
  generalize p.data.toList = l
  unfold goodPart
  by_cases h1 : 1 ≤ l.length
  · by_cases h2 : l.length ≤ 16
    · right
      have e0 : (decide ((1 : Int) ≤ (l.length : Int)) && decide ((l.length : Int) ≤ 16)) = true := by simp; omega
      have e1 : l.isEmpty = false := by cases l <;> simp at h1 ⊢
      refine ⟨e0, ?_⟩
      cases h3 : (l == [46])
      · right
        refine ⟨rfl, ?_⟩
        cases h4 : (l == [46, 46])
        · right
          refine ⟨rfl, ?_⟩
          rcases index0 l with ⟨a, b⟩ | ⟨a, b⟩
          · left; simp [e1, b, h2, a]
          · right; exact ⟨by rw [b]; simp, by omega⟩
        · left; simp
      · left; simp
    · left
      have e0 : (decide ((1 : Int) ≤ (l.length : Int)) && decide ((l.length : Int) ≤ 16)) = false := by simp; omega
      have e1 : decide (l.length ≤ 16) = false := by simpa using h2
      exact ⟨by rw [e1]; simp, e0⟩
  · left
    have e0 : (decide ((1 : Int) ≤ (l.length : Int)) && decide ((l.length : Int) ≤ 16)) = false := by simp; omega
    have e1 : l.isEmpty = true := by cases l <;> simp at h1 ⊢
    exact ⟨by rw [e1]; simp, e0⟩

set_option maxRecDepth 100000 in
set_option maxHeartbeats 4000000 in
theorem isPart_any (p : ByteArray) (w : World) (_hp : p.size ≤ 9223372036854775807) : Calls Tryd.prog 58 #[.string p] w fun e w' => e = .returned (.bool (goodPart p.data.toList)) ∧ w' = w := by
  have hw := within_any p.size 1 16 w
  rcases part_cases p with ⟨hR, h1⟩ | ⟨h1, ⟨hR, h2⟩ | ⟨h2, ⟨hR, h3⟩ | ⟨h3, ⟨hR, h4⟩ | ⟨hR, h4⟩⟩⟩⟩
  all_goals
    rw [h1] at hw
    have HW := hide hw
    have HR := hide hR
    clear hw h1 hR
    go_enter Tryd.func58, Tryd.ntmps58
    go_wp2_with fail
    refine HW.out.mono ?_
    rintro r w1 ⟨rfl, rfl⟩
    go_wp2_with fail
    try
      refine (Tryd.strings_IndexByte p 0 w1).mono ?_
      rintro r w2 ⟨rfl, rfl⟩
      have h5 : (0 : Int).toNat.toUInt8 = 0 := rfl
      rw [h5]
      go_wp2_with fail
    go_ret
    refine ⟨?_, rfl⟩
    rw [HR.out]
    first
      | rfl
      | (have h6 : decide (Lib.indexByte p.data.toList 0 < 0) = false := by simpa using h4
         rw [h6]
         rfl)

theorem splitS_part : ∀ (l : List UInt8), ∀ x ∈ splitS l, x.length ≤ l.length
  | [], x, hx => by simp [splitS] at hx; simp [hx]
  | c :: r, x, hx => by
    have ih := splitS_part r
    unfold splitS at hx
    by_cases hc : c = 47
    · rw [if_pos hc] at hx
      rcases List.mem_cons.1 hx with rfl | h
      · simp
      · have := ih x h; simp; omega
    · rw [if_neg hc] at hx
      obtain ⟨h, t, e⟩ := splitS_cons r
      rw [e] at hx ih
      rcases List.mem_cons.1 hx with rfl | h1
      · have := ih h (by simp); simp; omega
      · have := ih x (by simp [h1]); simp; omega

set_option maxRecDepth 100000 in
set_option maxHeartbeats 4000000 in
theorem isPath_any (p : ByteArray) (m : Int) (w : World) (hm : w.cell? ⟨0, 0, none⟩ = some (.int .i64 m)) (hp : p.size ≤ 9223372036854775807) : Calls Tryd.prog 50 #[.string p] w fun e w' => e = .returned (.bool (okPath p.data.toList)) ∧ Kept NoB w w' := by
  by_cases h1 : p.size ≤ 64
  · have hl : p.data.toList.length ≤ 64 := by rw [← Lib.size_eq]; exact h1
    have HO : Hid (okPath p.data.toList = (splitS p.data.toList).all goodPart) := by
      unfold Hid okPath
      simp only [hl, decide_true, Bool.and_true]
    generalize hS : splitS p.data.toList = S at *
    have hSl : S.length ≤ 65 := by
      rw [← hS]
      have := splitS_len p.data.toList
      omega
    have HPL : Hid (∀ x ∈ S, x.length ≤ 64) := by
      intro x hx
      rw [← hS] at hx
      have := splitS_part p.data.toList x hx
      omega
    have HS := hide hS
    clear hS hl
    go_enter Tryd.func50, Tryd.ntmps50
    go_wp2_with fail
    have hsp := Split_any p m w (by omega) hm
    rw [HS.out] at hsp
    refine hsp.mono ?_
    rintro r w1 ⟨rfl, hw1⟩
    clear hsp
    have hk1 : Kept NoB w w1 := by rw [hw1]; exact (Kept.refl NoB w).alloc _
    have HC : Hid (∀ (k : Nat) (h : k < S.length), w1.cell? ⟨w.heap.size, k, none⟩ = some (mkS S[k])) := by
      intro k h
      rw [hw1, cell_of_row _ _ _ _ _ _ (heap_alloc_new w _)]
      simp [h]
    clear hw1
    have HK1 := hide hk1
    generalize hg : w.heap.size = g at *
    clear hg hk1
    go_wp2_with fail
    go_loopw [11] (fun i wr => ∃ k : Nat, k ≤ S.length ∧ i = .int .i64 k ∧ wr = w1 ∧ Hid ((S.take k).all goodPart = true)) (fun i _ => S.length - (intOf i).toNat)
    case atStart => exact ⟨0, by omega, rfl, rfl, by simp [Hid]⟩
    case round =>
      obtain ⟨k, hk, rfl, rfl, hall⟩ := hrel
      by_cases hlt : k < S.length
      · have c0 := HC.out k hlt
        have hpl := HPL.out S[k] (List.getElem_mem hlt)
        have hpt := isPart_any ⟨S[k].toArray⟩ wr (by rw [mk_size]; omega)
        rw [show (⟨S[k].toArray⟩ : ByteArray).data.toList = S[k] by simp] at hpt
        unfold mkS at c0
        have HPT := hide hpt
        clear hpt
        cases hgp : goodPart S[k]
        · rw [hgp] at HPT
          go_wp2_with fail
          refine HPT.out.mono ?_
          rintro r w2 ⟨rfl, rfl⟩
          go_wp2_with fail
          go_ret
          refine ⟨?_, HK1.out⟩
          rw [HO.out, List.all_eq_false.2 ⟨S[k], List.getElem_mem hlt, by simp [hgp]⟩]
          rfl
        · rw [hgp] at HPT
          go_wp2_with fail
          refine HPT.out.mono ?_
          rintro r w2 ⟨rfl, rfl⟩
          go_wp2_with fail
          go_roundw
          case rel =>
            refine ⟨k + 1, by omega, by go_num, trivial, hide ?_⟩
            rw [List.take_succ_eq_append_getElem hlt, List.all_append, hall.out]
            simp [hgp]
          case measure => simp [intOf]; omega
      · go_wp2_with fail
        go_ret
        refine ⟨?_, HK1.out⟩
        have := hall.out
        rw [List.take_of_length_le (by omega)] at this
        rw [HO.out, this]
        rfl
  · have HO : Hid (okPath p.data.toList = false) := by
      unfold Hid okPath
      rw [← Lib.size_eq]
      simp [h1]
    go_enter Tryd.func50, Tryd.ntmps50
    go_wp2_with fail
    go_ret
    exact ⟨by rw [HO.out]; rfl, Kept.refl _ _⟩

def prevN (ns : List Nt) : Nat → ByteArray
  | 0 => ⟨#[]⟩
  | j + 1 => match ns[j]? with
    | some n => n.name
    | none => ⟨#[]⟩
theorem prevN_succ (ns : List Nt) (j : Nat) (hj : j < ns.length) : prevN ns (j + 1) = ns[j].name := by
  simp [prevN, hj]
theorem less_nil (l : List UInt8) : Op.bytesLess l [] = false := by cases l <;> rfl
theorem nil_less (l : List UInt8) : Op.bytesLess [] l = !l.isEmpty := by cases l <;> rfl
theorem less_tri : ∀ (a b : List UInt8), (Op.bytesLess a b = true ∧ (a == b) = false ∧ Op.bytesLess b a = false) ∨ (Op.bytesLess a b = false ∧ a = b ∧ Op.bytesLess b a = false) ∨ (Op.bytesLess a b = false ∧ (a == b) = false ∧ Op.bytesLess b a = true)
  | [], [] => by right; left; exact ⟨rfl, rfl, rfl⟩
  | [], _ :: _ => by left; exact ⟨rfl, rfl, rfl⟩
  | _ :: _, [] => by right; right; exact ⟨rfl, rfl, rfl⟩
  | a :: x, b :: y => by
    rcases Nat.lt_trichotomy a.toNat b.toNat with h | h | h
    · left
      have h1 : a < b := UInt8.lt_iff_toNat_lt.2 h
      have h2 : ¬ b < a := fun h' => by have := UInt8.lt_iff_toNat_lt.1 h'; omega
      have h3 : ¬ a = b := fun e => by rw [e] at h; omega
      have h4 : ¬ b = a := fun e => h3 e.symm
      simp [Op.bytesLess, h1, h2, h3, h4]
    · have h1 : a = b := UInt8.toNat_inj.1 h
      subst h1
      have h2 : ¬ a < a := fun h' => by have := UInt8.lt_iff_toNat_lt.1 h'; omega
      rcases less_tri x y with ⟨p, q, r⟩ | ⟨p, q, r⟩ | ⟨p, q, r⟩
      · left; simp [Op.bytesLess, h2, p, r]; simpa using q
      · right; left; subst q; simp [Op.bytesLess, h2, p]
      · right; right; simp [Op.bytesLess, h2, p, r]; simpa using q
    · right; right
      have h1 : b < a := UInt8.lt_iff_toNat_lt.2 h
      have h2 : ¬ a < b := fun h' => by have := UInt8.lt_iff_toNat_lt.1 h'; omega
      have h3 : ¬ a = b := fun e => by rw [e] at h; omega
      simp [Op.bytesLess, h1, h2, h3]
theorem less_leq (a b : List UInt8) : Op.bytesLess b a = true ∧ Op.bytesLess a b = false ∧ (a == b) = false ∨ Op.bytesLess b a = false ∧ (Op.bytesLess a b = true ∨ (Op.bytesLess a b = false ∧ (a == b) = true)) := by
  rcases less_tri a b with ⟨p, q, r⟩ | ⟨p, q, r⟩ | ⟨p, q, r⟩
  · right; exact ⟨r, .inl p⟩
  · right; exact ⟨r, .inr ⟨p, by simp [q]⟩⟩
  · left; exact ⟨r, p, q⟩
theorem note_step (ns : List Nt) (k : Nat) (hk : k < ns.length) : (Op.bytesLess (prevN ns k).toList ns[k].name.toList = false ∧ nOk ns k = false) ∨ (Op.bytesLess (prevN ns k).toList ns[k].name.toList = true ∧
    (((16 : Int) < (ns[k].name.size : Int) ∧ nOk ns k = false) ∨ ((ns[k].name.size : Int) ≤ 16 ∧ (64 : Int) < (ns[k].text.size : Int) ∧ nOk ns k = false) ∨ ((ns[k].name.size : Int) ≤ 16 ∧ (ns[k].text.size : Int) ≤ 64 ∧ nOk ns k = true))) := by
  have hlast : nOk ns k = (noteOk ns[k] && Op.bytesLess (prevN ns k).toList ns[k].name.toList) := by
    unfold nOk
    rw [List.getElem?_eq_getElem hk]
    cases k with
    | zero =>
      have : (prevN ns 0).toList = [] := by rw [ByteArray.toList_eq]; rfl
      rw [this, nil_less]
      simp [noteOk]
      intro h _ _
      exact h
    | succ j =>
      have hj : j < ns.length := by omega
      rw [prevN_succ ns j hj]
      simp [hj]
  cases hL : Op.bytesLess (prevN ns k).toList ns[k].name.toList
  · left; exact ⟨rfl, by rw [hlast, hL, Bool.and_false]⟩
  · right
    refine ⟨rfl, ?_⟩
    have hne : ns[k].name.toList.isEmpty = false := by
      cases h : ns[k].name.toList.isEmpty
      · rfl
      · rw [List.isEmpty_iff] at h
        rw [h, less_nil] at hL
        cases hL
    rw [hlast, hL, Bool.and_true]
    rcases note_cases ns[k] with ⟨hb, ht | ⟨_, ht⟩ | ⟨_, ht, ht2⟩⟩ | ⟨hg, _, h2, h3⟩
    · rw [ht] at hne; cases hne
    · left; exact ⟨ht, hb⟩
    · right; left; exact ⟨ht, ht2, hb⟩
    · right; right; exact ⟨h2, h3, hg⟩

set_option maxRecDepth 100000 in
set_option maxHeartbeats 4000000 in
theorem areNotes_any (ns : List Nt) (v : Value) (w : World) (ha : NotesAt w v ns) (hla : ns.length ≤ 100000000) :
    Calls Tryd.prog 52 #[v] w fun e w' => e = .returned (.bool (notesOk ns)) ∧ Kept NoB w w' := by
  obtain ⟨ao, cap, rfl, hc⟩ := CellsAt.shape ha
  by_cases h4 : ns.length ≤ 4
  · have HA := hide ha
    clear ha
    go_enter Tryd.func52, Tryd.ntmps52
    go_wp2_with fail
    go_loopw [3, 11] (fun s i wr => ∃ k : Nat, k ≤ ns.length ∧ i = .int .i64 k ∧ s = .string (prevN ns k) ∧ (∀ j, j < k → Hid (nOk ns j = true)) ∧ Kept NoB w wr) (fun _ i _ => ns.length - (intOf i).toNat)
    case atStart => exact ⟨0, by omega, rfl, rfl, fun j hj => absurd hj (Nat.not_lt_zero _), Kept.refl _ _⟩
    case round =>
      obtain ⟨k, hka, rfl, rfl, heq, hkept⟩ := hrel
      by_cases h1 : k < ns.length
      · obtain ⟨b, o, rfl, hc1, hc2⟩ := notes_at (CellsAt.keptN HA.out (by decide) hkept) k h1
        have HP := hide (prevN_succ ns k h1)
        have HS := hide (note_step ns k h1)
        rcases less_leq ns[k].name.toList (prevN ns k).toList with ⟨hs, hs2, hs3⟩ | ⟨hs, hs2⟩
        · rcases HS.out with ⟨hq, _⟩ | ⟨_, ⟨hs4, hR⟩ | ⟨hs4, hs5, hR⟩ | ⟨hs4, hs5, hR⟩⟩
          · rw [hs] at hq; cases hq
          · have HR := hide (notesOk_false ns k h1 hR)
            clear hR
            go_wp2_with fail
            go_ret
            exact ⟨by rw [HR.out]; rfl, hkept.alloc _⟩
          · have HR := hide (notesOk_false ns k h1 hR)
            clear hR
            go_wp2_with fail
            go_ret
            exact ⟨by rw [HR.out]; rfl, hkept.alloc _⟩
          · have HR := hide hR
            clear hR
            go_wp2_with fail
            go_roundw
            case rel => exact ⟨k + 1, by omega, by go_num, by rw [HP.out], upTo heq HR, hkept.alloc _⟩
            case measure => simp [intOf]; omega
        · have HR : Hid (notesOk ns = false) := by
            rcases HS.out with ⟨_, hR⟩ | ⟨hq, _⟩
            · exact notesOk_false ns k h1 hR
            · rw [hs] at hq; cases hq
          rcases hs2 with hs2 | ⟨hs2, hs3⟩
          all_goals
            go_wp2_with fail
            go_ret
            exact ⟨by rw [HR.out]; rfl, hkept.alloc _⟩
      · have HZ := hide (notesOk_all ns k (by omega) (fun j hj => (heq j hj).out))
        go_wp2_with fail
        go_ret
        refine ⟨?_, hkept⟩
        rw [HZ.out]
        simp [h4]
  · have HZ : Hid (notesOk ns = false) := by
      unfold Hid notesOk
      simp [h4]
    go_enter Tryd.func52, Tryd.ntmps52
    go_wp2_with fail
    go_ret
    exact ⟨by rw [HZ.out]; rfl, Kept.refl _ _⟩
end Go.Proofs.YtidioioldlmciaaDoor
