import Derived.Test.YtidioioldlmciaaDoorJ
namespace Go.Proofs.YtidioioldlmciaaDoor
open Go.RowKit

set_option maxRecDepth 100000 in
set_option maxHeartbeats 4000000 in
theorem same_nil (w : World) : Calls Tryd.prog 8 #[.nilIface, .agg #[.int .i64 0, .string ⟨#[]⟩]] w fun e w' => e = .returned (.bool true) ∧ Kept NoB w w' := by
  go_enter Tryd.func8, Tryd.ntmps8
  go_wp2
  go_ret
  exact ⟨rfl, (Kept.refl NoB w).alloc _⟩

def zeros32 : List UInt8 := List.replicate 32 0
theorem as60 (v : Value) (w : World) : (Instr.typeAssert (.iface 60 v) 34 60 true).run Tryd.prog w = .ok (.tuple #[v, .bool true]) w := by kernel_rfl
theorem zeros32_at (j : Nat) (h : j < zeros32.length) : zeros32[j].toNat = 0 := by
  simp only [zeros32, List.getElem_replicate]; rfl
def strLen : Value → Nat | .string s => s.size | _ => 0
/-- an error that is a fault of this code, without a digest -/
def FaultAt (w : World) (v : Value) (code : Int) : Prop := ∃ b, v = .iface 60 (.pointer (some ⟨b, 0, none⟩)) ∧ w.cell? ⟨b, 0, none⟩ = some (.int .i64 code) ∧ ∀ j, j < 32 → w.cell? ⟨b, 1 + j, none⟩ = some (.int .u8 0)

set_option maxRecDepth 100000 in
set_option maxHeartbeats 4000000 in
theorem same_fault (w : World) (v : Value) (code : Int) (hc : code ≠ 0) (hv : FaultAt w v code) : Calls Tryd.prog 8 #[v, .agg #[.int .i64 code, .string ⟨#[]⟩]] w fun e w' => e = .returned (.bool true) ∧ Kept NoB w w' := by
  obtain ⟨b, rfl, h0, h1⟩ := hv
  have hta := as60
  have hb : b < w.heap.size := World.block_lt_of_cell? w _ h0
  have hcne : (code == 0) = false := by simpa using hc
  have hcne2 : (code != 0) = true := by simpa using hc
  have hcc : (code == code) = true := by simp
  have HK : Hid (Kept NoB w (w.alloc (.cells #[.int .i64 code, .string ⟨#[]⟩] 38))) := (Kept.refl NoB w).alloc _
  have d0 := HK.out.cellN h0
  have hcv : ∀ n, (convert 32 9 (.slice (some ⟨b, 1, none⟩) 32 32)).run Tryd.prog ((w.alloc (.cells #[.int .i64 code, .string ⟨#[]⟩] 38)).drewN n) = .ok (.string ⟨zeros32.toArray⟩) ((w.alloc (.cells #[.int .i64 code, .string ⟨#[]⟩] 38)).drewN n) := by
    intro n
    refine run_convert_bytes_back (P := Tryd.prog) _ 32 9 5 ⟨b, 1, none⟩ 32 zeros32 Tryd.underlying32 Tryd.underlying5 Tryd.underlying9 (fun j hj => ?_)
    have hj' : j < 32 := hj
    rw [Addr.add_lit, zeros32_at j hj]
    exact HK.out.cellN (h1 j hj')
  have hzz : (zeros32 == zeros32) = true := by simp
  go_enter Tryd.func8, Tryd.ntmps8
  go_wp2
  go_loop [7] (fun d => ∃ k : Nat, k ≤ 32 ∧ d = .string ⟨(List.replicate k (0 : UInt8)).toArray⟩) (fun d => 32 - strLen d)
  case atStart => exact ⟨0, by omega, rfl⟩
  case round =>
    obtain ⟨k, hk, rfl⟩ := hrel
    generalize hL : List.replicate k (0 : UInt8) = L
    have hlen : L.length = k := by rw [← hL]; simp
    have HL := hide hL
    have HLEN := hide hlen
    clear hL
    by_cases h2 : k < 32
    · have hl2 : L.length < 32 := by omega
      clear hlen
      go_wp2
      go_round
      case rel =>
        refine ⟨k + 1, by omega, ?_⟩
        rw [List.replicate_succ', HL.out]
        exact congrArg Value.string (ByteArray.mk_append_mk L [0])
      case measure =>
        simp [strLen, mk_size]
        omega
    · obtain rfl : k = 32 := by omega
      have hLz : L = zeros32 := HL.out.symm
      subst hLz
      have hl2 : ¬ (zeros32.length < 32) := by simp [zeros32]
      clear hlen
      go_wp2
      go_quiet (fail)
      go_wp2
      go_ret
      exact ⟨rfl, HK.out.drewN _⟩

theorem notes_len {w : World} {v : Value} {ns : List Nt} (h : NotesAt w v ns) : ∃ ao cap, v = .slice ao ns.length cap := by
  obtain ⟨ao, cap, hv, _⟩ := CellsAt.shape h
  exact ⟨ao, cap, hv⟩

set_option maxRecDepth 100000 in
set_option maxHeartbeats 4000000 in
theorem alikeEntry_any (e : En) (va vb : Value) (w : World) (ha : NotesAt w va e.notes) (hb : NotesAt w vb e.notes) (hl : e.notes.length ≤ 100000000) :
    Calls Tryd.prog 21 #[enVal e va, enVal e vb] w fun r w' => r = .returned (.bool true) ∧ Kept NoB w w' := by
  obtain ⟨aoa, capa, rfl⟩ := notes_len ha
  obtain ⟨aob, capb, rfl⟩ := notes_len hb
  unfold enVal
  have h1 : (e.path.toList == e.path.toList) = true := by simp
  have h2 : (e.kind != e.kind) = false := by simp
  have h3 : (e.mode != e.mode) = false := by simp
  have h4 : (e.time != e.time) = false := by simp
  have h5 : (e.content.toList == e.content.toList) = true := by simp
  have h6 : ((e.notes.length : Int) != (e.notes.length : Int)) = false := by simp
  have HA := hide ha
  have HB := hide hb
  clear ha hb
  go_enter Tryd.func21, Tryd.ntmps21
  go_wp2_with fail
  generalize hA0 : Obj.cells #[Value.string e.path, .int .i64 e.kind, .int .i64 e.mode, .int .i64 e.time, .slice aoa e.notes.length capa, .string e.content] 55 = A0
  generalize hB0 : Obj.cells #[Value.string e.path, .int .i64 e.kind, .int .i64 e.mode, .int .i64 e.time, .slice aob e.notes.length capb, .string e.content] 55 = B0
  have HA0 := hide hA0
  have HB0 := hide hB0
  clear hA0 hB0
  go_loopw [5] (fun i wr => ∃ k : Nat, k ≤ e.notes.length ∧ i = .int .i64 k ∧ Kept NoB ((w.alloc A0).alloc B0) wr) (fun i _ => e.notes.length - (intOf i).toNat)
  case atStart => exact ⟨0, by omega, rfl, Kept.refl _ _⟩
  case round =>
    obtain ⟨k, hk, rfl, hkept⟩ := hrel
    have hA1 := hkept.heapN (heap_alloc2_old w A0 B0)
    have hB1 := hkept.heapN (heap_alloc2_new w A0 B0)
    rw [← HA0.out] at hA1
    rw [← HB0.out] at hB1
    obtain ⟨_, _, _, _, a4, _, _⟩ := box_cells hA1
    obtain ⟨_, _, _, _, b4, _, _⟩ := box_cells hB1
    have hkw : Kept NoB w wr := (((Kept.refl NoB w).alloc A0).alloc B0).trans' hkept (fun _ _ h => h)
    clear hA1 hB1
    by_cases hlt : k < e.notes.length
    · obtain ⟨ba, oa, rfl, x0, x1⟩ := notes_at (CellsAt.keptN HA.out (by decide) hkw) k hlt
      obtain ⟨bb, ob, rfl, y0, y1⟩ := notes_at (CellsAt.keptN HB.out (by decide) hkw) k hlt
      have n1 : (e.notes[k].name.toList == e.notes[k].name.toList) = true := by simp
      have n2 : (e.notes[k].text.toList == e.notes[k].text.toList) = true := by simp
      go_wp2_with fail
      go_quiet (fail)
      go_wp2_with fail
      go_roundw
      case rel => exact ⟨k + 1, by omega, by go_num, hkept.drewN _⟩
      case measure => simp [intOf]; omega
    · go_wp2_with fail
      go_ret
      exact ⟨rfl, hkw⟩

def digC (k : Nat) : UInt8 := UInt8.ofNat (48 + k % 10)
/-- the mark of a number -/
def markAux : Nat → Nat → List UInt8 → List UInt8
  | 0, _, s => s
  | f + 1, n, s => if n = 0 then s else markAux f (n / 10) (s ++ [digC n])
theorem mark_step (f k : Nat) (L : List UInt8) (h : k < f) (h0 : 0 < k) : markAux f k L = markAux (f - 1) (k / 10) (L ++ [digC k]) := by
  obtain ⟨g, rfl⟩ : ∃ g, f = g + 1 := ⟨f - 1, by omega⟩
  rw [markAux, if_neg (by omega)]
  rfl
theorem mark_end (f k : Nat) (L : List UInt8) (h : k < f) (h0 : ¬ 0 < k) : markAux f k L = L := by
  obtain ⟨g, rfl⟩ : ∃ g, f = g + 1 := ⟨f - 1, by omega⟩
  rw [markAux, if_pos (by omega)]
def markL (n : Nat) : List UInt8 := markAux (n + 1) n [109, 97, 114, 107]

set_option maxRecDepth 100000 in
set_option maxHeartbeats 4000000 in
theorem marked_any (n : Nat) (w : World) (hn : n ≤ 1000000) :
    Calls Tryd.prog 26 #[.int .i64 n] w fun r w' => r = .returned (.string ⟨(markL n).toArray⟩) ∧ Kept NoB w w' := by
  go_enter Tryd.func26, Tryd.ntmps26
  go_wp2
  go_loopw [0, 3] (fun i s wr => ∃ (k f : Nat) (L : List UInt8), i = .int .i64 k ∧ s = .string ⟨L.toArray⟩ ∧ k < f ∧ k ≤ n ∧ Hid (markL n = markAux f k L) ∧ Hid (L.length + k ≤ n + 4) ∧ Kept NoB w wr) (fun i _ _ => (intOf i).toNat)
  case atStart => exact ⟨n, n + 1, [109, 97, 114, 107], rfl, rfl, by omega, by omega, rfl, hide (by simp; omega), Kept.refl _ _⟩
  case round =>
    obtain ⟨k, f, L, rfl, rfl, hkf, hkn, hm, hL, hkept⟩ := hrel
    have hL2 : L.length ≤ 1000004 := by have := hL.out; omega
    by_cases h0 : 0 < k
    · have hd : ((digC k).toNat : Int) = 48 + (k : Int) % 10 := by
        unfold digC; rw [UInt8.toNat_ofNat']; omega
      have hcv := run_convert_bytes_back (P := Tryd.prog) (wr.alloc (.cells #[.int .u8 (48 + (k : Int) % 10)] 5)) 32 9 5 ⟨wr.heap.size, 0, none⟩ 1 [digC k] Tryd.underlying32 Tryd.underlying5 Tryd.underlying9 (fun j hj => by
        obtain rfl : j = 0 := by simpa using hj
        rw [one_new wr _ 5 0 _ rfl]
        simp only [List.getElem_cons_zero, hd])
      have hlen1 : [digC k].length = 1 := rfl
      rw [hlen1] at hcv
      clear hd hlen1
      have HM := hide (mark_step f k L hkf h0)
      go_wp2_with fail
      go_roundw
      case rel =>
        refine ⟨k / 10, f - 1, L ++ [digC k], by go_num, ?_, by omega, by omega, hide ?_, hide ?_, hkept.alloc _⟩
        · exact congrArg Value.string (ByteArray.mk_append_mk L _)
        · rw [hm.out, HM.out]
        · have := hL.out
          simp
          omega
      case measure => simp [intOf]; omega
    · have HM := hide (mark_end f k L hkf h0)
      go_wp2_with fail
      go_ret
      exact ⟨by rw [hm.out, HM.out]; rfl, hkept⟩

theorem map_at {za zb : List (En × Value)} (h : za.map (·.1) = zb.map (·.1)) (k : Nat) (ha : k < za.length) (hb : k < zb.length) : zb[k].1 = za[k].1 := by
  have h1 : (za.map (·.1))[k]? = (zb.map (·.1))[k]? := by rw [h]
  simpa [ha, hb] using h1.symm
theorem ents_shape {w : World} {v : Value} {zs : List (En × Value)} (h : EntsAt w v zs) : ∃ ao cap, v = .slice ao zs.length cap := by
  obtain ⟨ao, cap, hv, _⟩ := CellsAt.shape h.1
  exact ⟨ao, cap, hv⟩

set_option maxRecDepth 100000 in
set_option maxHeartbeats 4000000 in
theorem alike_any (za zb : List (En × Value)) (va vb : Value) (w : World) (ha : EntsAt w va za) (hb : EntsAt w vb zb) (heq : za.map (·.1) = zb.map (·.1)) (hl : za.length ≤ 100000000) (hn : ∀ z ∈ za, z.1.notes.length ≤ 100000000) :
    Calls Tryd.prog 14 #[va, vb] w fun r w' => r = .returned (.bool true) ∧ Kept NoB w w' := by
  have hll : za.length = zb.length := by simpa using congrArg List.length heq
  obtain ⟨aoa, capa, rfl⟩ := ents_shape ha
  obtain ⟨aob, capb, rfl⟩ := ents_shape hb
  rw [← hll]
  rw [← hll] at hb
  have h6 : ((za.length : Int) != (za.length : Int)) = false := by simp
  have HA := hide ha
  have HB := hide hb
  have HEQ := hide heq
  have HLL := hide hll
  have HN := hide hn
  clear ha hb heq hll hn
  go_enter Tryd.func14, Tryd.ntmps14
  go_wp2_with fail
  go_loopw [5] (fun i wr => ∃ k : Nat, k ≤ za.length ∧ i = .int .i64 k ∧ Kept NoB w wr) (fun i _ => za.length - (intOf i).toNat)
  case atStart => exact ⟨0, by omega, rfl, Kept.refl _ _⟩
  case round =>
    obtain ⟨k, hk, rfl, hkept⟩ := hrel
    by_cases hlt : k < za.length
    · have hltb : k < zb.length := by rw [← HLL.out]; exact hlt
      have hbk := HB.out.keptN hkept
      rw [HLL.out] at hbk
      obtain ⟨ba, oa, rfl, hca⟩ := ents_at (HA.out.keptN hkept) k hlt
      obtain ⟨bb, ob, rfl, hcb⟩ := ents_at hbk k hltb
      have hna := (HA.out.keptN hkept).2 za[k] (List.getElem_mem hlt)
      have hnb := hbk.2 zb[k] (List.getElem_mem hltb)
      have he : zb[k].1 = za[k].1 := map_at HEQ.out k hlt hltb
      rw [he] at hnb
      obtain ⟨nao, nac, hna2⟩ := notes_len hna
      obtain ⟨nbo, nbc, hnb2⟩ := notes_len hnb
      have x0 := KW.cell (hca 0 (by decide))
      have x1 := KW.cell (hca 1 (by decide))
      have x2 := KW.cell (hca 2 (by decide))
      have x3 := KW.cell (hca 3 (by decide))
      have x4 := KW.cell (hca 4 (by decide))
      have x5 := KW.cell (hca 5 (by decide))
      have y0 := KW.cell (hcb 0 (by decide))
      have y1 := KW.cell (hcb 1 (by decide))
      have y2 := KW.cell (hcb 2 (by decide))
      have y3 := KW.cell (hcb 3 (by decide))
      have y4 := KW.cell (hcb 4 (by decide))
      have y5 := KW.cell (hcb 5 (by decide))
      simp only [hna2, Nat.add_zero] at x0 x1 x2 x3 x4 x5
      simp only [he, hnb2, Nat.add_zero] at y0 y1 y2 y3 y4 y5
      rw [hna2] at hna
      rw [hnb2] at hnb
      have hne := KW.ne wr
      have HNA := hide hna
      have HNB := hide hnb
      have hnl := HN.out za[k] (List.getElem_mem hlt)
      clear hca hcb hna hnb he hna2 hnb2 hbk
      go_wp2_with fail
      refine wp_region_kw (by kernel_rfl) (by kernel_rfl) ?_
      repeat (any_goals (go_big_quiet_step ((go_at_call 21; exact calls_kw (alikeEntry_any za[k].1 _ _ _ (CellsAt.keptN HNA.out (by decide) (KW.h _)) (CellsAt.keptN HNB.out (by decide) (KW.h _)) hnl)))))
      refine wpQuiet_nil ?_
      intro _ hw'
      obtain ⟨xq, hw''⟩ := hw'
      subst hw''
      clear x0 x1 x2 x3 x4 x5 y0 y1 y2 y3 y4 y5 hne
      go_wp2_with fail
      go_roundw
      case rel => exact ⟨k + 1, by omega, by go_num, hkept.trans xq.h⟩
      case measure => simp [intOf]; omega
    · go_wp2_with fail
      go_ret
      exact ⟨rfl, hkept⟩
end Go.Proofs.YtidioioldlmciaaDoor
