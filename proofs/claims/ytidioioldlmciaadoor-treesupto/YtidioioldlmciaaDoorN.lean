import Derived.Test.YtidioioldlmciaaDoorM
namespace Go.Proofs.YtidioioldlmciaaDoor
open Go.RowKit

/-- a list of marks: n times the same element -/
def Marks (w : World) (B : Nat) (e : TypeId) (z : List Value) (v : Value) (n : Nat) : Prop := w.ownsRow B e z.length v n (zRow z n)

theorem row_over (z : List Value) (hz : 0 < z.length) (cur : List Value) (n q p : Nat) (hp : cur.take (p * z.length) = zRow z p) (hl : (n + q) * z.length ≤ cur.length) (_hpl : p * z.length ≤ cur.length) :
    (cur.take (n * z.length) ++ zRow z q ++ cur.drop (n * z.length + (zRow z q).length)).take (p * z.length) = zRow z p := by
  have hq : (zRow z q).length = q * z.length := zRow_len z q
  have hc : ∀ j, j < p * z.length → cur[j]? = z[j % z.length]? := by
    intro j hj
    have h1 := zRow_at z p j hz hj
    rw [← hp, List.getElem?_take, if_pos hj] at h1
    exact h1
  rw [Nat.add_mul] at hl
  apply List.ext_getElem?
  intro j
  rw [List.getElem?_take]
  by_cases hj : j < p * z.length
  · rw [if_pos hj, zRow_at z p j hz hj]
    by_cases h1 : j < n * z.length
    · rw [List.append_assoc, List.getElem?_append_left (by simp; omega), List.getElem?_take, if_pos h1]
      exact hc j hj
    · have htl : (cur.take (n * z.length)).length = n * z.length := by simp; omega
      by_cases h2 : j < n * z.length + q * z.length
      · rw [List.append_assoc, List.getElem?_append_right (by omega), htl, List.getElem?_append_left (by rw [hq]; omega), zRow_at z q _ hz (by omega)]
        congr 1
        obtain ⟨d, rfl⟩ : ∃ d, j = n * z.length + d := ⟨j - n * z.length, by omega⟩
        rw [Nat.add_sub_cancel_left, Nat.mul_add_mod_self_right]
      · rw [List.getElem?_append_right (by rw [List.length_append, htl, hq]; omega), List.length_append, htl, hq, List.getElem?_drop]
        rw [show n * z.length + q * z.length + (j - (n * z.length + q * z.length)) = j by omega]
        exact hc j hj
  · rw [if_neg hj, List.getElem?_eq_none (by rw [zRow_len]; omega)]

theorem zRow_add (z : List Value) (n m : Nat) : zRow z n ++ zRow z m = zRow z (n + m) := by
  induction n with
  | zero => simp [zRow]
  | succ n ih => rw [show n + 1 + m = (n + m) + 1 by omega, zRow_succ, zRow_succ, List.append_assoc, ih]

section
variable {P : Program} (w : World)

/-- append marks onto a list of the same marks: all lists of these marks stay what they are -/
theorem run_append3 (base : Nat) (t tx ty e : TypeId) (i : TypeInfo) (zv : Value) (z : List Value) (bytes : Nat) (ht : P.underlying t = some (.slice e)) (hi : P.info? e = some i) (hz : i.zero = some zv)
    (hsize : i.size = z.length) (hby : i.bytes = bytes) (hzs : zv.cells.size = z.length) (hz0 : 0 < z.length)
    (v : Value) (n : Nat) (hown : Marks w base e z v n)
    (x : Value) (m : Nat) (hs : Src P z.length tx x m (zRow z m) w)
    (hb : (n + m) * bytes ≤ 140737488355328) (h63 : n + m ≤ maxLen) (hbase : base ≤ w.heap.size) :
    ∃ v' w', (Builtin.append_ #[t, tx] ty #[v, x]).run P w = .ok v' w' ∧ Marks w' base e z v' (n + m) ∧ (∀ u p, Marks w base e z u p → Marks w' base e z u p) ∧
      w.grownBy w' v.ownBlock ∧ (∀ k, v'.ownBlock = some k → v.ownBlock = some k ∨ w.heap.size ≤ k) := by
  have hnl := hs.newsLen
  have hlen : (zRow z n ++ zRow z m).length = (n + m) * z.length := by rw [zRow_add, zRow_len]
  have hsmall : n + m ≤ 9223372036854775807 := by simp only [maxLen] at h63; omega
  have grow : ∀ (bs : Option Addr) (sc : Nat), v = .slice bs n sc → sc < n + m →
      (Builtin.firstCells i.size n (.slice bs n sc)).run P w.drew = .ok (zRow z n).toArray w.drew →
      ∃ v' w', (Builtin.append_ #[t, tx] ty #[v, x]).run P w = .ok v' w' ∧ Marks w' base e z v' (n + m) ∧ (∀ u p, Marks w base e z u p → Marks w' base e z u p) ∧
      w.grownBy w' v.ownBlock ∧ (∀ k, v'.ownBlock = some k → v.ownBlock = some k ∨ w.heap.size ≤ k) := by
    rintro bs sc rfl hg hold
    have hrun := run_append_grow_src (P := P) w t tx ty e i zv ht hi hz bs n sc (zRow z n) hold x m (zRow z m) (by rw [hsize]; exact hs) hg (by omega) (growslice_fits hg (by rw [hby]; exact hb))
    have hge := grownCap_ge w (n + m) sc e
    have hcm := grownCap_le_maxLen w (n + m) sc e h63
    have hblk : ∀ k, k < w.heap.size → (w.drew.alloc (.cells ((zRow z n ++ zRow z m).toArray ++ Builtin.zeroCells zv.cells (grownCap w (n + m) sc e - (n + m))) e)).heap[k]? = w.heap[k]? := fun k hk => Below.heap_alloc w.drew _ k hk
    have hgb : w.grownBy (w.drew.alloc (.cells ((zRow z n ++ zRow z m).toArray ++ Builtin.zeroCells zv.cells (grownCap w (n + m) sc e - (n + m))) e)) (Value.ownBlock (.slice bs n sc)) := ⟨rfl, rfl, rfl, by simp, fun k hk _ => hblk k hk⟩
    refine ⟨_, _, hrun, ⟨by rw [zRow_len], .inr ⟨w.heap.size, _, _, rfl, hbase, heap_alloc_new w.drew _, hge, hcm, ?_, ?_⟩⟩, ?_, hgb, fun k hk => .inr (by cases hk; exact Nat.le_refl _)⟩
    · simp only [Array.size_append, List.size_toArray, size_zeroCells, hzs, hlen, ← Nat.add_mul]
      congr 1
      omega
    · simp only [Array.toList_append]
      rw [← hlen, ← zRow_add]
      exact List.take_left
    · intro u p hu
      refine ⟨hu.1, ?_⟩
      rcases hu.2 with h0 | ⟨g, cap, cur, hv, hbg, hgg, r⟩
      · exact .inl h0
      · exact .inr ⟨g, cap, cur, hv, hbg, (hblk g (Array.getElem?_eq_some_iff.1 hgg).1).trans hgg, r⟩
  rcases hown.2 with ⟨rfl, rfl⟩ | ⟨g, cap, cur, rfl, hbg, hg, hnc, hcm, hcs, htake⟩
  · rcases Nat.eq_zero_or_pos m with rfl | hm
    · refine ⟨.slice none 0 0, w, ?_, hown, fun _ _ h => h, World.grownBy.refl _ _, fun k hk => by cases hk⟩
      rcases hs.kind with ⟨e', hk⟩ | hk <;> simp [Builtin.append_, run_underlying ht, run_underlying hk, sizeOf, typeInfo, hi, hsize, hs.len, hs.cells, zRow]
    · exact grow none 0 rfl (by omega) (run_firstCells_none w.drew i.size 0 0 0)
  · by_cases hroom : n + m ≤ cap
    · have hfit : n * z.length + (zRow z m).length ≤ cur.size := by rw [hnl, hcs, ← Nat.add_mul]; exact Nat.mul_le_mul_right _ hroom
      have hst := run_storeCells_at P g (n * z.length) e (zRow z m) 0 cur w hg (by simpa using hfit) hs.one
      simp only [Nat.add_zero] at hst
      have hr : (Builtin.append_ #[t, tx] ty #[.slice (some ⟨g, 0, none⟩) n cap, x]).run P w =
          .ok (.slice (some ⟨g, 0, none⟩) (n + m) cap) (w.setRow g (cur.toList.take (n * z.length) ++ zRow z m ++ cur.toList.drop (n * z.length + (zRow z m).length)).toArray) := by
        rcases hs.kind with ⟨e', hk⟩ | hk <;> simp [Builtin.append_, run_underlying ht, run_underlying hk, sizeOf, typeInfo, hi, hsize, hs.len, hroom, hs.cells, Addr.add_lit, hst]
      have hsz' : (cur.toList.take (n * z.length) ++ zRow z m ++ cur.toList.drop (n * z.length + (zRow z m).length)).toArray.size = cap * z.length := by
        simp only [List.size_toArray, List.length_append, List.length_take, List.length_drop, Array.length_toList]
        omega
      refine ⟨_, _, hr, ⟨by rw [zRow_len], .inr ⟨g, cap, _, rfl, hbg, setRow_heap w g cur _ e _ hg, hroom, hcm, hsz', ?_⟩⟩, ?_, ⟨rfl, rfl, rfl, by simp, fun k _ hk => setRow_other w g k _ (fun e => hk (by simp [Value.ownBlock, e]))⟩, fun k hk => .inl hk⟩
      · rw [htake, ← hlen, zRow_add]
        have : (zRow z (n + m)).length = (zRow z n ++ zRow z m).length := by rw [zRow_add]
        rw [← zRow_add]
        exact List.take_left
      · intro u p hu
        refine ⟨hu.1, ?_⟩
        rcases hu.2 with h0 | ⟨k, cap', cur', hv, hbk, hgk, hpc, hcm', hcs', htk⟩
        · exact .inl h0
        · by_cases hkg : k = g
          · subst hkg
            rw [hg] at hgk
            cases hgk
            refine .inr ⟨k, cap', _, hv, hbk, setRow_heap w k cur _ e _ hg, hpc, hcm', ?_, ?_⟩
            · rw [hsz', ← hcs', hcs]
            · have hcc : cur.toList.length = cap * z.length := by rw [Array.length_toList, hcs]
              refine row_over z hz0 cur.toList n m p htk (by rw [hcc]; exact Nat.mul_le_mul_right _ hroom) ?_
              rw [hcc, ← hcs, hcs']
              exact Nat.mul_le_mul_right _ hpc
          · exact .inr ⟨k, cap', cur', hv, hbk, by rw [setRow_other w g k _ hkg]; exact hgk, hpc, hcm', hcs', htk⟩
    · exact grow (some ⟨g, 0, none⟩) cap rfl (by omega) (by rw [hsize]; exact run_firstCells_some w.drew z.length n ⟨g, 0, none⟩ n cap (zRow z n) hown.1 (by simpa using hown.cells (g := g) rfl))

theorem wpList_append3 {ops : Array Oper} {rest : List Oper} {o : Oper} {a : Act} {Q : Exit → Act → World → Prop} (hgd : o.guard = none) (s x : Operand) (t tx : TypeId)
    (ho : o.op = .call { callee := .builtin .append, args := #[s, x], argTypes := #[t, tx] })
    (base : Nat) (e : TypeId) (zv : Value) (z : List Value) (bytes : Nat) (ht : P.underlying t = some (.slice e)) (hinfo : (P.info? e).map (fun i => (i.zero, i.size, i.bytes)) = some (some zv, z.length, bytes)) (hzs : zv.cells.size = z.length) (hz0 : 0 < z.length)
    (v : Value) (n : Nat) (hs : a.eval s = v) (hown : Marks w base e z v n)
    (xv : Value) (m : Nat) (hx : a.eval x = xv) (hsrc : Src P z.length tx xv m (zRow z m) w)
    (hb : (n + m) * bytes ≤ 140737488355328) (h63 : n + m ≤ maxLen) (hbase : base ≤ w.heap.size)
    (h : ∀ v' w', Marks w' base e z v' (n + m) → (∀ u p, Marks w base e z u p → Marks w' base e z u p) → w.grownBy w' v.ownBlock → (∀ k, v'.ownBlock = some k → v.ownBlock = some k ∨ w.heap.size ≤ k) → wpList P ops Q rest (a.put o.dst v') w') :
    wpList P ops Q (o :: rest) a w := by
  obtain ⟨i, hi, hz, h1, h2⟩ := info_parts hinfo
  refine wpList_plain hgd fun K hK => ?_
  obtain ⟨v', w', hr, r1, r2, r3, r4⟩ := run_append3 (P := P) w base t tx o.type e i zv z bytes ht hi hz h1 h2 hzs hz0 v n hown xv m hsrc hb h63 hbase
  unfold Oper.wp execOp
  simp only [ho, resolve, invoke, builtin, Sem.run_bind, Sem.run_pure, Result.andThen_ok, List.map_toArray, List.map_cons, List.map_nil, hs, hx, hr]
  exact hK _ _ (h v' w' r1 r2 r3 r4)
end
end Go.Proofs.YtidioioldlmciaaDoor
