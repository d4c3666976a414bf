import Derived.Test.YtidioioldlmciaaDoorB
namespace Go.Proofs.YtidioioldlmciaaDoor
open Go.RowKit

theorem info9 : (Tryd.prog.info? 9).map (fun i => (i.zero, i.size, i.bytes)) = some (some (.string ByteArray.empty), 1, 16) := by kernel_rfl

def splitS : List UInt8 → List (List UInt8)
  | [] => [[]]
  | c :: r => if c = 47 then [] :: splitS r else match splitS r with
    | [] => [[c]]
    | h :: t => (c :: h) :: t

theorem splitS_cons (l : List UInt8) : ∃ h t, splitS l = h :: t := by
  cases l with
  | nil => exact ⟨_, _, rfl⟩
  | cons c r =>
    unfold splitS
    split
    · exact ⟨_, _, rfl⟩
    · split
      · exact ⟨_, _, rfl⟩
      · exact ⟨_, _, rfl⟩

theorem splitS_run (cur rest : List UInt8) (h : ∀ c ∈ cur, c ≠ 47) : ∀ hd tl, splitS rest = hd :: tl → splitS (cur ++ rest) = (cur ++ hd) :: tl := by
  induction cur with
  | nil => intro hd tl e; simpa using e
  | cons c cur ih =>
    intro hd tl e
    have := ih (fun x hx => h x (by simp [hx])) hd tl e
    have hc : ¬ c = 47 := h c (by simp)
    simp [splitS, hc, this]

theorem splitS_sep (cur rest : List UInt8) (h : ∀ c ∈ cur, c ≠ 47) : splitS (cur ++ 47 :: rest) = cur :: splitS rest := by
  have := splitS_run cur (47 :: rest) h [] (splitS rest) (by simp [splitS])
  simpa using this
theorem splitS_end (cur : List UInt8) (h : ∀ c ∈ cur, c ≠ 47) : splitS cur = [cur] := by
  have := splitS_run cur [] h [] [] (by simp [splitS])
  simpa using this

def goodPart (l : List UInt8) : Bool := !l.isEmpty && !(l == [46]) && !(l == [46, 46]) && decide (l.length ≤ 16) && l.all (· != 0)
def okPath (l : List UInt8) : Bool := (splitS l).all goodPart && decide (l.length ≤ 64)
def mkS (l : List UInt8) : Value := .string ⟨l.toArray⟩


theorem mkS_data (s : ByteArray) : Value.string s = mkS s.data.toList := rfl

def cutL (P : List UInt8) (fr k : Nat) : List UInt8 := (P.drop fr).take (k - fr)
theorem extract_eq (p : ByteArray) (a b : Nat) : p.extract a b = ⟨(cutL p.data.toList a b).toArray⟩ := by
  have := ByteArray.extract_mk p.data.toList a b
  simpa [cutL] using this
theorem extract_list (p : ByteArray) (a b : Nat) : (p.extract a b).toList = cutL p.data.toList a b := by
  rw [extract_eq, ByteArray.toList_mk]
theorem cutL_rest (P : List UInt8) (fr k : Nat) (h : fr ≤ k) : P.drop fr = cutL P fr k ++ P.drop k := by
  unfold cutL
  have := (List.take_append_drop (k - fr) (P.drop fr)).symm
  rw [List.drop_drop] at this
  rwa [show fr + (k - fr) = k by omega] at this
theorem cutL_snoc (P : List UInt8) (fr k : Nat) (h : fr ≤ k) (hk : k < P.length) : cutL P fr (k + 1) = cutL P fr k ++ [P[k]] := by
  unfold cutL
  rw [show k + 1 - fr = (k - fr) + 1 by omega, List.take_succ_eq_append_getElem (by simp; omega)]
  congr 2
  simp [show fr + (k - fr) = k by omega]
theorem cutL_len (P : List UInt8) (fr k : Nat) (hk : k ≤ P.length) : (cutL P fr k).length = k - fr := by
  unfold cutL; simp; omega

/-- where the loop of Parts stands -/
def PInv (P : List UInt8) (fr k : Nat) (done : List (List UInt8)) : Prop :=
  done.all goodPart = true ∧ ((k ≤ P.length ∧ fr ≤ k ∧ splitS P = done ++ splitS (P.drop fr) ∧ ∀ c ∈ cutL P fr k, c ≠ 47 ∧ c ≠ 0) ∨ (k = P.length + 1 ∧ splitS P = done))

theorem PInv.start (P : List UInt8) : PInv P 0 0 [] := ⟨rfl, .inl ⟨by omega, by omega, by simp, by simp [cutL]⟩⟩
theorem PInv.step {P : List UInt8} {fr k : Nat} {done : List (List UInt8)} (h : PInv P fr k done) (hk : k < P.length) (h1 : P[k] ≠ 47) (h2 : P[k] ≠ 0) : PInv P fr (k + 1) done := by
  obtain ⟨h0, ⟨a, b, c, d⟩ | ⟨a, _⟩⟩ := h
  · refine ⟨h0, .inl ⟨by omega, by omega, c, fun x hx => ?_⟩⟩
    rw [cutL_snoc P fr k b hk] at hx
    rcases List.mem_append.1 hx with hx | hx
    · exact d x hx
    · rw [List.mem_singleton.1 hx]; exact ⟨h1, h2⟩
  · omega
theorem not_ok {P : List UInt8} {done tl : List (List UInt8)} {c : List UInt8} (h : splitS P = done ++ c :: tl) (hc : goodPart c = false) : okPath P = false := by
  simp [okPath, h, hc]
theorem PInv.zero {P : List UInt8} {fr k : Nat} {done : List (List UInt8)} (h : PInv P fr k done) (hk : k < P.length) (h1 : P[k] ≠ 47) (h2 : P[k] = 0) : okPath P = false := by
  obtain ⟨h0, ⟨a, b, c, d⟩ | ⟨a, _⟩⟩ := h
  · obtain ⟨hd, tl, e⟩ := splitS_cons (P.drop (k + 1))
    have e2 := splitS_run (cutL P fr (k + 1)) (P.drop (k + 1)) (fun x hx => by
      rw [cutL_snoc P fr k b hk] at hx
      rcases List.mem_append.1 hx with hx | hx
      · exact (d x hx).1
      · rw [List.mem_singleton.1 hx]; exact h1) hd tl e
    rw [← cutL_rest P fr (k + 1) (by omega)] at e2
    rw [e2] at c
    refine not_ok c ?_
    have : (0 : UInt8) ∈ cutL P fr (k + 1) ++ hd := by
      rw [cutL_snoc P fr k b hk, h2]; simp
    unfold goodPart
    have hall : ((cutL P fr (k + 1) ++ hd).all (· != 0)) = false := by
      rw [List.all_eq_false]
      exact ⟨0, this, by simp⟩
    rw [hall, Bool.and_false]
  · omega
theorem PInv.cut {P : List UInt8} {fr k : Nat} {done : List (List UInt8)} (h : PInv P fr k done) (hk : (∃ h : k < P.length, P[k] = 47) ∨ k = P.length) :
    ∃ tl, splitS P = done ++ cutL P fr k :: tl ∧ fr ≤ k ∧ (goodPart (cutL P fr k) = true → PInv P (k + 1) (k + 1) (done ++ [cutL P fr k])) ∧ (cutL P fr k).all (· != 0) = true := by
  obtain ⟨h0, ⟨a, b, c, d⟩ | ⟨a, _⟩⟩ := h
  · have hz : (cutL P fr k).all (· != 0) = true := by
      rw [List.all_eq_true]; intro x hx; simpa using (d x hx).2
    rcases hk with ⟨hk, h47⟩ | rfl
    · have e : P.drop k = 47 :: P.drop (k + 1) := by rw [List.drop_eq_getElem_cons hk, h47]
      have e2 := splitS_sep (cutL P fr k) (P.drop (k + 1)) (fun x hx => (d x hx).1)
      rw [← e, ← cutL_rest P fr k b] at e2
      rw [e2] at c
      refine ⟨_, c, b, fun hg => ⟨by simp [h0, hg], .inl ⟨by omega, by omega, by rw [c]; simp, by simp [cutL]⟩⟩, hz⟩
    · have e2 := splitS_end (cutL P fr P.length) (fun x hx => (d x hx).1)
      have e3 := cutL_rest P fr P.length b
      rw [List.drop_length, List.append_nil] at e3
      rw [e3, e2] at c
      exact ⟨[], c, b, fun hg => ⟨by simp [h0, hg], .inr ⟨rfl, c⟩⟩, hz⟩
  · rcases hk with ⟨hk, _⟩ | hk <;> omega
theorem PInv.last {P : List UInt8} {fr : Nat} {done : List (List UInt8)} (h : PInv P fr (P.length + 1) done) : splitS P = done ∧ okPath P = decide (P.length ≤ 64) := by
  obtain ⟨h0, ⟨a, b, c, d⟩ | ⟨a, e⟩⟩ := h
  · omega
  · refine ⟨e, ?_⟩
    unfold okPath
    rw [e, h0, Bool.true_and]
theorem good_of {l : List UInt8} (h1 : l.isEmpty = false) (h2 : (l == [46]) = false) (h3 : (l == [46, 46]) = false) (h4 : l.length ≤ 16) (h5 : l.all (· != 0) = true) : goodPart l = true := by
  unfold goodPart; rw [h1, h2, h3, h5]; simp [h4]
theorem bad_cases {l : List UInt8} {n : Nat} (hl : l.length = n) (h : goodPart l = false) (h5 : l.all (· != 0) = true) :
    l.isEmpty = true ∨ (l.isEmpty = false ∧ (l == [46]) = true) ∨ (l.isEmpty = false ∧ (l == [46]) = false ∧ (l == [46, 46]) = true) ∨ (l.isEmpty = false ∧ (l == [46]) = false ∧ (l == [46, 46]) = false ∧ decide ((16 : Int) < (n : Int)) = true) := by
  subst hl
  unfold goodPart at h
  rw [h5] at h
  cases h1 : l.isEmpty <;> cases h2 : (l == [46]) <;> cases h3 : (l == [46, 46]) <;> simp_all <;> omega

theorem good_parts {l : List UInt8} {n : Nat} (h : goodPart l = true) (hl : l.length = n) : l.isEmpty = false ∧ (l == [46]) = false ∧ (l == [46, 46]) = false ∧ n ≤ 16 := by
  unfold goodPart at h
  subst hl
  cases h1 : l.isEmpty <;> cases h2 : (l == [46]) <;> cases h3 : (l == [46, 46]) <;> simp_all

theorem one_new (W : World) (x : Value) (t : TypeId) : ∀ j u, [x][j]? = some u → (W.alloc (.cells #[x] t)).cell? ((⟨W.heap.size, 0, none⟩ : Addr).add j) = some u := by
  intro j u hj
  match j, hj with
  | 0, hj => simp at hj; subst hj; simp [Addr.add]

theorem byte_eq {x : UInt8} (y : UInt8) (h : (x.toNat : Int) = (y.toNat : Int)) : x = y := UInt8.toNat_inj.1 (by omega)
theorem byte_ne {x : UInt8} (y : UInt8) (h : (x.toNat : Int) ≠ (y.toNat : Int)) : x ≠ y := fun e => h (by rw [e])

set_option maxRecDepth 100000 in
set_option maxHeartbeats 4000000 in
theorem Parts_any (p : ByteArray) (w : World) (hs : p.size ≤ 2000000) :
    Calls Tryd.prog 30 #[.string p] w fun e w' => ∃ v, e = .returned (.tuple #[v, .bool (okPath p.data.toList)]) ∧ Kept NoB w w' ∧
      (okPath p.data.toList = true → w'.ownsRow w.heap.size 9 1 v (splitS p.data.toList).length ((splitS p.data.toList).map mkS)) := by
  have hsz : p.data.toList.length = p.size := by rw [Array.length_toList]; rfl
  have HSZ := hide hsz
  clear hsz
  go_enter Tryd.func30, Tryd.ntmps30
  go_wp2
  go_loopw [4, 5, 6] (fun o f i wr => ∃ (fr k : Nat) (done : List (List UInt8)), PInv p.data.toList fr k done ∧ f = .int .i64 fr ∧ i = .int .i64 k ∧
      wr.ownsRow w.heap.size 9 1 o done.length (done.map mkS) ∧ Kept NoB w wr ∧ k ≤ p.size + 1 ∧ done.length ≤ k) (fun _ _ i _ => p.size + 1 - (intOf i).toNat)
  case atStart => exact ⟨0, 0, [], PInv.start _, rfl, rfl, World.ownsRow_nil _ _ _ _, Kept.refl _ _, by omega, by simp⟩
  case round =>
    obtain ⟨fr, k, done, hinv, rfl, rfl, hown, hkept, hk, hdl⟩ := hrel
    by_cases hlt : k < p.size
    · by_cases h47 : (p[k].toNat : Int) = 47
      · have ht : ((p[k].toNat : Int) != 47) = false := by rw [h47]; rfl
        have hP : (∃ h : k < p.data.toList.length, p.data.toList[k] = 47) ∨ k = p.data.toList.length := .inl ⟨by rw [HSZ.out]; exact hlt, byte_eq 47 h47⟩
        obtain ⟨tl, hsp, hfk, hnext, hz⟩ := hinv.cut hP
        have hcl : (cutL p.data.toList fr k).length = k - fr := cutL_len _ _ _ (by rw [HSZ.out]; omega)
        have hxl : (p.extract fr k).toList = cutL p.data.toList fr k := extract_list _ _ _
        have hxs : Value.string (p.extract fr k) = mkS (cutL p.data.toList fr k) := by rw [extract_eq]; rfl
        cases hgp : goodPart (cutL p.data.toList fr k) with
        | false =>
          have HB := hide (not_ok hsp hgp)
          have hbc := bad_cases hcl hgp hz
          rw [← hxl] at hbc
          clear hsp hnext hz hcl hxl hxs hgp hP
          rcases hbc with h1 | ⟨h1, h2⟩ | ⟨h1, h2, h3⟩ | ⟨h1, h2, h3, h4⟩
          all_goals
            go_wp2_with fail
            go_ret2
            exact ⟨.slice none 0 0, by rw [HB.out]; rfl, hkept, fun h => absurd h (by rw [HB.out]; decide)⟩
        | true =>
          have hgc : (p.extract fr k).toList.isEmpty = false ∧ ((p.extract fr k).toList == [46]) = false ∧ ((p.extract fr k).toList == [46, 46]) = false ∧ k - fr ≤ 16 := by
            rw [hxl]; exact good_parts hgp hcl
          obtain ⟨h1, h2, h3, h4⟩ := hgc
          have h4' : decide ((16 : Int) < ((k - fr : Nat) : Int)) = false := by simp; omega
          have HN := hide (hnext hgp)
          have HX := hide hxs
          clear hsp hnext hz hcl hxl hxs hgp hP hinv
          go_wp2_with (at_builtin; refine wpList_append2 _ rfl (.tmp 47) (.tmp 49) 75 75 rfl w.heap.size 9 (.string ByteArray.empty) 1 16 Tryd.underlying75 info9 rfl _ _ _ rfl (hown.alloc _) (.slice (some ⟨wr.heap.size, 0, none⟩) 1 1) 1 [mkS (cutL p.data.toList fr k)] rfl (Src.ofSlice _ Tryd.underlying75 _ 1 1 _ rfl (by rw [← HX.out]; exact one_new _ _ _) (by intro u hu; rw [List.mem_singleton.1 hu]; rfl)) (by omega) (by unfold maxLen; omega) (by have := hkept.size; simp; omega) ?_; intro v' w1 hown' hold' hg1 hl1)
          go_roundw
          case rel =>
            refine ⟨k + 1, k + 1, done ++ [cutL p.data.toList fr k], HN.out, by go_num, by go_num, ?_, ?_, by omega, by simp; omega⟩
            · simpa using hown'
            · exact (hkept.alloc _).grown hg1 (fun j hj hlt => absurd hlt (Nat.not_lt.2 ((hown.lt j hj).1)))
          case measure => simp [intOf]; omega
      · have ht : ((p[k].toNat : Int) != 47) = true := by simpa using h47
        by_cases h0 : (p[k].toNat : Int) = 0
        · have HB := hide (hinv.zero (by rw [HSZ.out]; exact hlt) (byte_ne 47 h47) (byte_eq 0 h0))
          go_wp2_with fail
          go_ret2
          exact ⟨.slice none 0 0, by rw [HB.out]; rfl, hkept, fun h => absurd h (by rw [HB.out]; decide)⟩
        · have HN := hide (hinv.step (by rw [HSZ.out]; exact hlt) (byte_ne 47 h47) (byte_ne 0 h0))
          go_wp2_with fail
          go_roundw
          case rel => exact ⟨fr, k + 1, done, HN.out, by go_num, by go_num, hown, hkept, by omega, by omega⟩
          case measure => simp [intOf]; omega
    · by_cases he : k = p.size
      · subst he
        have hP : (∃ h : p.size < p.data.toList.length, p.data.toList[p.size] = 47) ∨ p.size = p.data.toList.length := .inr HSZ.out.symm
        obtain ⟨tl, hsp, hfk, hnext, hz⟩ := hinv.cut hP
        have hcl : (cutL p.data.toList fr p.size).length = p.size - fr := cutL_len _ _ _ (by rw [HSZ.out]; omega)
        have hxl : (p.extract fr p.size).toList = cutL p.data.toList fr p.size := extract_list _ _ _
        have hxs : Value.string (p.extract fr p.size) = mkS (cutL p.data.toList fr p.size) := by rw [extract_eq]; rfl
        cases hgp : goodPart (cutL p.data.toList fr p.size) with
        | false =>
          have HB := hide (not_ok hsp hgp)
          have hbc := bad_cases hcl hgp hz
          rw [← hxl] at hbc
          clear hsp hnext hz hcl hxl hxs hgp hP
          rcases hbc with h1 | ⟨h1, h2⟩ | ⟨h1, h2, h3⟩ | ⟨h1, h2, h3, h4⟩
          all_goals
            go_wp2_with fail
            go_ret2
            exact ⟨.slice none 0 0, by rw [HB.out]; rfl, hkept, fun h => absurd h (by rw [HB.out]; decide)⟩
        | true =>
          have hgc : (p.extract fr p.size).toList.isEmpty = false ∧ ((p.extract fr p.size).toList == [46]) = false ∧ ((p.extract fr p.size).toList == [46, 46]) = false ∧ p.size - fr ≤ 16 := by
            rw [hxl]; exact good_parts hgp hcl
          obtain ⟨h1, h2, h3, h4⟩ := hgc
          have h4' : decide ((16 : Int) < ((p.size - fr : Nat) : Int)) = false := by simp; omega
          have HN := hide (hnext hgp)
          have HX := hide hxs
          clear hsp hnext hz hcl hxl hxs hgp hP hinv
          go_wp2_with (at_builtin; refine wpList_append2 _ rfl (.tmp 47) (.tmp 49) 75 75 rfl w.heap.size 9 (.string ByteArray.empty) 1 16 Tryd.underlying75 info9 rfl _ _ _ rfl (hown.alloc _) (.slice (some ⟨wr.heap.size, 0, none⟩) 1 1) 1 [mkS (cutL p.data.toList fr p.size)] rfl (Src.ofSlice _ Tryd.underlying75 _ 1 1 _ rfl (by rw [← HX.out]; exact one_new _ _ _) (by intro u hu; rw [List.mem_singleton.1 hu]; rfl)) (by omega) (by unfold maxLen; omega) (by have := hkept.size; simp; omega) ?_; intro v' w1 hown' hold' hg1 hl1)
          go_roundw
          case rel =>
            refine ⟨p.size + 1, p.size + 1, done ++ [cutL p.data.toList fr p.size], HN.out, by go_num, by go_num, ?_, ?_, by omega, by simp; omega⟩
            · simpa using hown'
            · exact (hkept.alloc _).grown hg1 (fun j hj hlt => absurd hlt (Nat.not_lt.2 ((hown.lt j hj).1)))
          case measure => simp [intOf]
      · obtain rfl : k = p.size + 1 := by omega
        have hl := hinv
        rw [← HSZ.out] at hl
        obtain ⟨e1, e2⟩ := hl.last
        have H1 := hide e1
        have H2 := hide e2
        clear e1 e2 hl
        go_wp2_with fail
        go_ret2
        refine ⟨_, ?_, hkept, fun _ => by rw [H1.out]; exact hown⟩
        rw [H2.out, HSZ.out, ← show decide ((p.size : Int) ≤ 64) = decide (p.size ≤ 64) from decide_eq_decide.2 (by omega)]
        rfl
end Go.Proofs.YtidioioldlmciaaDoor
