import Derived.Test.YtbmmcdofanajcaaDoorY
namespace Go.Proofs.YtbmmcdofanajcaaDoor
open Go.RowKit

/-- bytes that lie in a slice -/
abbrev BytesAt (w : World) (v : Value) (l : List UInt8) : Prop := CellsAt w v 1 l.length (byteL l)
/-- silt's reader: what is left, and whether there were too few -/
def stake (n : Nat) (s : List UInt8 × Bool) : List UInt8 × (List UInt8 × Bool) := (s.1.take n, (s.1.drop n, s.2 || decide (s.1.length < n)))
structure ReadAt (w : World) (rb : Nat) (s : List UInt8 × Bool) : Prop where
  blk : ∃ rv, w.heap[rb]? = some (.cells #[rv, .bool s.2] 81 (0, 0)) ∧ BytesAt w rv s.1 ∧ (0 < s.1.length → ∀ k, rv.ownBlock = some k → k < rb)

theorem BytesAt.keptR {w w' : World} {v : Value} {l : List UInt8} {rb : Nat} (h : BytesAt w v l) (ho : 0 < l.length → ∀ k, v.ownBlock = some k → k < rb) (hk : Kept (At rb) w w') : BytesAt w' v l := by
  rcases Nat.eq_zero_or_pos l.length with h0 | h0
  · obtain ⟨h1, ao, cap, h2, h3, _⟩ := h
    exact ⟨h1, ao, cap, h2, h3, fun hx => by omega⟩
  · exact CellsAt.kept h (by decide) hk (fun k hk' hx => by have := ho h0 k hk'; rw [hx] at this; omega)
theorem slice_take {w : World} {ao : Option Addr} {cap : Nat} {l : List UInt8} {n T : Nat} (h : BytesAt w (.slice ao l.length cap) l) (hT : T = min n l.length) : BytesAt w (.slice ao T cap) (l.take n) := by
  obtain ⟨h1, ao', cap', h2, h3, h4⟩ := h
  cases h2
  have hl : (l.take n).length = T := by rw [hT]; simp
  refine ⟨by rw [byteL_len, Nat.mul_one], ao, cap, by rw [hl], by omega, fun h0 => ?_⟩
  rw [hl] at h0
  obtain ⟨b, o, hb, hc⟩ := h4 (by omega)
  refine ⟨b, o, hb, fun j hj => ?_⟩
  rw [hl] at hj
  rw [hc j (by omega)]
  unfold byteL
  rw [List.map_take, List.getElem?_take, if_pos (by omega)]
theorem slice_drop {w : World} {ao : Option Addr} {cap : Nat} {l : List UInt8} {n T : Nat} (h : BytesAt w (.slice ao l.length cap) l) (hT : T = min n l.length) : BytesAt w (.slice (ao.map (fun x => x.add T)) (l.length - T) (cap - T)) (l.drop n) := by
  obtain ⟨h1, ao', cap', h2, h3, h4⟩ := h
  cases h2
  have hl : (l.drop n).length = l.length - T := by rw [hT]; simp; omega
  refine ⟨by rw [byteL_len, Nat.mul_one], _, _, by rw [hl], by omega, fun h0 => ?_⟩
  rw [hl] at h0
  obtain ⟨b, o, hb, hc⟩ := h4 (by omega)
  refine ⟨b, o + T, by rw [hb, Option.map_some, Addr.add_lit], fun j hj => ?_⟩
  rw [hl] at hj
  rw [Nat.add_assoc, hc (T + j) (by omega)]
  unfold byteL
  rw [List.map_drop, List.getElem?_drop]
  congr 1
  omega
theorem slice_drop0 {w : World} {ao : Option Addr} {cap : Nat} {l : List UInt8} {n T : Nat} (h : l.length ≤ cap) (hT : T = min n l.length) (hc : cap = T) : BytesAt w (.slice ao 0 0) (l.drop n) := by
  have hl : (l.drop n).length = l.length - T := by rw [hT]; simp; omega
  have hz : l.length - T = 0 := by omega
  rw [hz] at hl
  exact ⟨by rw [byteL_len, Nat.mul_one], ao, 0, by rw [hl], by omega, fun h0 => by omega⟩

set_option maxRecDepth 100000 in
set_option maxHeartbeats 4000000 in
theorem take_any (n : Nat) (s : List UInt8 × Bool) (rb : Nat) (w : World) (hs : s.1.length ≤ 100000000) (hn : n ≤ 1099511627776) (hr : ReadAt w rb s) :
    Calls Tryd.prog 49 #[.pointer (some ⟨rb, 0, none⟩), .int .i64 n] w fun e w' => ∃ tv, e = .returned tv ∧ BytesAt w' tv (stake n s).1 ∧ (0 < (stake n s).1.length → ∀ k, tv.ownBlock = some k → k < rb) ∧ ReadAt w' rb (stake n s).2 ∧ Kept (At rb) w w' := by
  obtain ⟨l, b⟩ := s
  obtain ⟨rv, hb, hc, ho⟩ := hr
  obtain ⟨ao, cap, rfl, hcap, hcc⟩ := hc.2
  obtain ⟨c0, c1, c2⟩ := row2 hb
  simp only at hs c0 c1 hcap
  obtain ⟨T, hT⟩ : ∃ T, T = min n l.length := ⟨_, rfl⟩
  have hTI : min (n : Int) (l.length : Int) = (T : Int) := by omega
  have hTl : T ≤ l.length := by omega
  have hTn : T ≤ n := by omega
  have hne : 0 < l.length → ∃ bb oo, ao = some ⟨bb, oo, none⟩ ∧ bb < rb := by
    intro h0
    obtain ⟨bb, oo, e, _⟩ := hcc h0
    exact ⟨bb, oo, e, ho h0 bb (by rw [e]; rfl)⟩
  have HT := hide hT
  have HB := hide hb
  have HC := hide hc
  have HNE := hide hne
  have hd : decide (l.length < n) = decide (T < n) := decide_eq_decide.2 (by omega)
  have HD := hide hd
  clear hb hc ho hcc hT hne hd
  have fin : ∀ (rest : Value) (sh : Bool), BytesAt w rest (l.drop n) → (0 < (l.drop n).length → ∀ k, rest.ownBlock = some k → k < rb) → sh = (b || decide (T < n)) → ∀ w', w' = (w.setCell ⟨rb, 1, none⟩ (.bool sh)).setCell ⟨rb, 0, none⟩ rest →
      BytesAt w' (.slice ao T cap) (stake n (l, b)).1 ∧ (0 < (stake n (l, b)).1.length → ∀ k, (Value.slice ao T cap).ownBlock = some k → k < rb) ∧ ReadAt w' rb (stake n (l, b)).2 ∧ Kept (At rb) w w' := by
    rintro rest sh h1 h2 h3 w' rfl
    have hk : Kept (At rb) w ((w.setCell ⟨rb, 1, none⟩ (.bool sh)).setCell ⟨rb, 0, none⟩ rest) := ((Kept.refl (At rb) w).setCell ⟨rb, 1, none⟩ (fun _ => rfl) _).setCell ⟨rb, 0, none⟩ (fun _ => rfl) _
    have ho2 : 0 < (l.take n).length → ∀ k, (Value.slice ao T cap).ownBlock = some k → k < rb := by
      intro h0 k hk'
      obtain ⟨bb, oo, e, hlt⟩ := HNE.out (by simp at h0; omega)
      rw [e] at hk'
      cases hk'
      exact hlt
    refine ⟨BytesAt.keptR (slice_take HC.out HT.out) ho2 hk, ho2, ⟨rest, ?_, h1.keptR h2 hk, h2⟩, hk⟩
    rw [heap_setCell_same _ _ _ _ _ _ (heap_setCell_same _ _ _ _ _ _ HB.out), h3, ← HD.out]
    rfl
  have HF := hide fin
  clear fin
  cases b
  · by_cases h : T < n
    all_goals
      by_cases hct : cap = T
      · subst hct
        go_enter Tryd.func49, Tryd.ntmps49
        go_wp2_with fail
        go_ret
        refine ⟨_, rfl, HF.out _ _ (slice_drop0 hcap HT.out rfl) (fun h0 => ?_) ?_ _ rfl⟩
        · have := HT.out; simp at h0; omega
        · simp [h]
      · go_enter Tryd.func49, Tryd.ntmps49
        go_wp2_with fail
        go_ret
        refine ⟨_, rfl, HF.out _ _ (slice_drop HC.out HT.out) (fun h0 k hk => ?_) ?_ _ rfl⟩
        · obtain ⟨bb, oo, e, hlt⟩ := HNE.out (by simp at h0; omega)
          rw [e, Option.map_some, Addr.add_lit] at hk
          cases hk
          exact hlt
        · simp [h]
  · by_cases hct : cap = T
    · subst hct
      go_enter Tryd.func49, Tryd.ntmps49
      go_wp2_with fail
      go_ret
      refine ⟨_, rfl, HF.out _ _ (slice_drop0 hcap HT.out rfl) (fun h0 => ?_) ?_ _ rfl⟩
      · have := HT.out; simp at h0; omega
      · rfl
    · go_enter Tryd.func49, Tryd.ntmps49
      go_wp2_with fail
      go_ret
      refine ⟨_, rfl, HF.out _ _ (slice_drop HC.out HT.out) (fun h0 k hk => ?_) ?_ _ rfl⟩
      · obtain ⟨bb, oo, e, hlt⟩ := HNE.out (by simp at h0; omega)
        rw [e, Option.map_some, Addr.add_lit] at hk
        cases hk
        exact hlt
      · rfl
end Go.Proofs.YtbmmcdofanajcaaDoor
