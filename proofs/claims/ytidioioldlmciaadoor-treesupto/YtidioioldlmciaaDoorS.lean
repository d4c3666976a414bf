import Derived.Test.YtidioioldlmciaaDoorR
namespace Go.Proofs.YtidioioldlmciaaDoor
open Go.RowKit

theorem marks_at {w : World} {B : Nat} {e : TypeId} {z : List Value} {v : Value} {n : Nat} (h : Marks w B e z v n) (hz : 0 < z.length) (j : Nat) (hj : j < n) :
    ∃ g cap, v = .slice (some ⟨g, 0, none⟩) n cap ∧ w.cell? ⟨g, j * z.length, none⟩ = z[0]? := by
  have hn : 0 < n := by omega
  obtain ⟨g, cap, hf, _, _⟩ := World.ownsRow.form h hn
  refine ⟨g, cap, hf, ?_⟩
  have hjl : j * z.length < n * z.length := Nat.mul_lt_mul_of_pos_right hj hz
  subst hf
  have := World.ownsRow.cellAt h (j * z.length) hjl
  rw [this, zRow_at z n _ hz hjl, Nat.mul_mod_left]

theorem owns_max {w : World} {B : Nat} {e : TypeId} {sz : Nat} {v : Value} {n : Nat} {xs : List Value} (h : w.ownsRow B e sz v n xs) : n ≤ 9223372036854775807 := by
  rcases h.2 with ⟨_, rfl⟩ | ⟨g, cap, cur, _, _, _, h1, h2, _⟩
  · omega
  · unfold maxLen at h2; omega

set_option maxRecDepth 100000 in
set_option maxHeartbeats 16000000 in
theorem kept_any (B ob : Nat) (vb vt vn : Value) (lb lt ln : List Value) (w : World) (h : BookAt w B ob vb vt vn lb lt ln) (h1 : lb.length ≤ 3000000) (h2 : lt.length ≤ 3000000) (h3 : ln.length ≤ 3000000) :
    Calls Tryd.prog 17 #[.pointer (some ⟨ob, 0, none⟩)] w fun e w' => e = .returned (.bool true) ∧ Kept NoB w w' := by
  obtain ⟨bao, bcap, rfl⟩ := owns_shape h.ownb
  obtain ⟨tao, tcap, rfl⟩ := owns_shape h.ownt
  obtain ⟨nao, ncap, rfl⟩ := owns_shape h.ownn
  have H := hide h
  obtain ⟨nb, hnb⟩ : ∃ nb, nb = lb.length := ⟨_, rfl⟩
  obtain ⟨nt, hnt⟩ : ∃ nt, nt = lt.length := ⟨_, rfl⟩
  obtain ⟨nn, hnn⟩ : ∃ nn, nn = ln.length := ⟨_, rfl⟩
  rw [← hnb] at h1
  rw [← hnt] at h2
  rw [← hnn] at h3
  have CS : Hid (∀ wx, Kept NoB w wx → wx.cell? ⟨ob, 0, none⟩ = some (.slice bao nb bcap) ∧ wx.cell? ⟨ob, 1, none⟩ = some (.slice none 0 0) ∧ wx.cell? ⟨ob, 2, none⟩ = some (.slice tao nt tcap) ∧ wx.cell? ⟨ob, 3, none⟩ = some (.slice nao nn ncap)) := by
    intro wx hx
    have hb := (H.out.keepN hx).blk
    rw [hnb, hnt, hnn]
    exact ⟨by rw [cell_of_row _ _ _ _ _ _ hb]; rfl, by rw [cell_of_row _ _ _ _ _ _ hb]; rfl, by rw [cell_of_row _ _ _ _ _ _ hb]; rfl, by rw [cell_of_row _ _ _ _ _ _ hb]; rfl⟩
  have HNB := hide hnb
  have HNT := hide hnt
  have HNN := hide hnn
  clear h hnb hnt hnn
  go_enter Tryd.func17, Tryd.ntmps17
  go_wp2_with fail
  go_loopw [3] (fun i wr => ∃ k : Nat, k ≤ nb ∧ i = .int .i64 k ∧ Kept NoB w wr) (fun i _ => nb - (intOf i).toNat)
  case atStart => exact ⟨0, by omega, rfl, Kept.refl _ _⟩
  case round =>
    obtain ⟨k, hk, rfl, hkept⟩ := hrel
    obtain ⟨c0, c1, c2, c3⟩ := CS.out _ hkept
    by_cases hlt : k < nb
    · have hltb : k < lb.length := by rw [← HNB.out]; exact hlt
      have hbk := H.out.keepN hkept
      have how := hbk.ownb
      obtain ⟨g, cap', hf, _, _⟩ := how.form (by omega)
      cases hf
      have d0 : wr.cell? ⟨g, k, none⟩ = some lb[k] := by
        rw [how.cellAt k (by omega)]
        simp [hltb]
      obtain ⟨m, hm⟩ := hbk.bs k hltb
      obtain ⟨ao, cap, hs⟩ := owns_shape hm
      rw [hs] at d0 hm
      have HM := hide hm
      clear hm hs how hbk
      have hm0 := owns_max HM.out
      go_wp2_with fail
      go_loopw [4] (fun i w2 => ∃ j : Nat, j ≤ m ∧ i = .int .i64 j ∧ w2 = wr) (fun i _ => m - (intOf i).toNat)
      case atStart => exact ⟨0, by omega, rfl, rfl⟩
      case round =>
        obtain ⟨j, hj, rfl, rfl⟩ := hrel
        by_cases hlt2 : j < m
        · obtain ⟨g2, cap2, hf2, e0⟩ := marks_at HM.out (Nat.succ_pos 0) j hlt2
          cases hf2
          have e1 : wr.cell? ⟨g2, j, none⟩ = some (.int .u8 ((100 + k / 4 % 150 : Nat) : Int)) := by
            have := e0
            simpa [bz] using this
          clear e0
          go_wp2_with fail
          go_roundw
          case rel => exact ⟨j + 1, by omega, by go_num, trivial⟩
          case measure => simp [intOf]; omega
        · go_wp2_with fail
          go_roundw
          case rel => exact ⟨k + 1, by omega, by go_num, hkept⟩
          case measure => simp [intOf]; omega
    · go_wp2_with fail
      clear hk hlt
      obtain ⟨wc, hwc⟩ : ∃ wc, wc = wr := ⟨_, rfl⟩
      rw [← hwc] at hkept c1 ⊢
      clear hwc c0 c2 c3
      go_loopw [5] (fun i wr => i = .int .i64 0 ∧ wr = wc) (fun _ _ => 0)
      case atStart => exact ⟨rfl, rfl⟩
      case round =>
        obtain ⟨rfl, rfl⟩ := hrel
        go_wp2_with fail
        go_loopw [7] (fun i wr => ∃ k : Nat, k ≤ nn ∧ i = .int .i64 k ∧ Kept NoB w wr) (fun i _ => nn - (intOf i).toNat)
        case atStart => exact ⟨0, by omega, rfl, hkept⟩
        case round =>
          clear hkept c1
          obtain ⟨k, hk, rfl, hkept⟩ := hrel
          rename World => w3
          obtain ⟨c0, c1, c2, c3⟩ := CS.out _ hkept
          by_cases hlt : k < nn
          · have hltb : k < ln.length := by rw [← HNN.out]; exact hlt
            have hcm := marked_any (k / 4 + 1) w3 (by omega)
            rw [show ((k / 4 + 1 : Nat) : Int) = (k : Int) / 4 + 1 by omega] at hcm
            have HCM := hide hcm
            clear hcm
            go_wp2_with fail
            refine HCM.out.mono ?_
            rintro r wm ⟨rfl, hkm⟩
            have hkept2 := hkept.trans hkm
            clear hkept c0 c1 c2 c3 hkm HCM
            replace hkept := hkept2
            clear hkept2
            obtain ⟨c0, c1, c2, c3⟩ := CS.out _ hkept
            have hbk := H.out.keepN hkept
            have how := hbk.ownn
            obtain ⟨g, cap', hf, _, _⟩ := how.form (by omega)
            cases hf
            have d0 : wm.cell? ⟨g, k, none⟩ = some ln[k] := by
              rw [how.cellAt k (by omega)]
              simp [hltb]
            obtain ⟨m, hm⟩ := hbk.ns k hltb
            obtain ⟨ao, cap, hs⟩ := owns_shape hm
            rw [hs] at d0 hm
            have HM := hide hm
            clear hm hs how hbk
            have hm0 := owns_max HM.out
            have hself : ((⟨(markL (k / 4 + 1)).toArray⟩ : ByteArray).toList == (⟨(markL (k / 4 + 1)).toArray⟩ : ByteArray).toList) = true := by simp
            go_wp2_with fail
            generalize hmk : (⟨(markL (k / 4 + 1)).toArray⟩ : ByteArray) = MK at *
            have HMK := hide hmk
            clear hmk
            go_loopw [9] (fun i w2 => ∃ j : Nat, j ≤ m ∧ i = .int .i64 j ∧ Kept NoB wm w2) (fun i _ => m - (intOf i).toNat)
            case atStart => exact ⟨0, by omega, rfl, Kept.refl _ _⟩
            case round =>
              obtain ⟨j, hj, rfl, hk2⟩ := hrel
              rename World => w5
              replace HM := hide (Marks.keepN HM.out hk2)
              replace hkept := hkept.trans hk2
              replace d0 := hk2.cellN d0
              replace c0 := hk2.cellN c0
              replace c1 := hk2.cellN c1
              replace c2 := hk2.cellN c2
              replace c3 := hk2.cellN c3
              by_cases hlt2 : j < m
              · obtain ⟨g2, cap2, hf2, e0⟩ := marks_at HM.out (Nat.succ_pos _) j hlt2
                cases hf2
                have e1 : w5.cell? ⟨g2, j * 2, none⟩ = some (.string MK) := by
                  have := e0
                  rw [← HMK.out]
                  simpa [nz, ntCells, markS] using this
                clear e0
                go_wp2_with fail
                go_roundw
                case rel => exact ⟨j + 1, by omega, by go_num, hk2⟩
                case measure => simp [intOf]; omega
              · go_wp2_with fail
                go_roundw
                case rel => exact ⟨k + 1, by omega, by go_num, hkept⟩
                case measure => simp [intOf]; omega
          · go_wp2_with fail
            clear hk hlt
            obtain ⟨wd, hwd⟩ : ∃ wd, wd = w3 := ⟨_, rfl⟩
            rw [← hwd] at hkept ⊢
            clear hwd c0 c1 c2 c3
            go_loopw [10] (fun i wr => ∃ k : Nat, k ≤ nt ∧ i = .int .i64 k ∧ Kept NoB w wr) (fun i _ => nt - (intOf i).toNat)
            case atStart => exact ⟨0, by omega, rfl, hkept⟩
            case round =>
              clear hkept
              obtain ⟨k, hk, rfl, hkept⟩ := hrel
              rename World => w7
              obtain ⟨c0, c1, c2, c3⟩ := CS.out _ hkept
              by_cases hlt : k < nt
              · have hltb : k < lt.length := by rw [← HNT.out]; exact hlt
                have hcm := marked_any (k / 4 + 1) w7 (by omega)
                rw [show ((k / 4 + 1 : Nat) : Int) = (k : Int) / 4 + 1 by omega] at hcm
                have HCM := hide hcm
                clear hcm
                go_wp2_with fail
                refine HCM.out.mono ?_
                rintro r wn ⟨rfl, hkm⟩
                have hkept2 := hkept.trans hkm
                clear hkept c0 c1 c2 c3 hkm HCM
                replace hkept := hkept2
                clear hkept2
                obtain ⟨c0, c1, c2, c3⟩ := CS.out _ hkept
                have hbk := H.out.keepN hkept
                have how := hbk.ownt
                obtain ⟨g, cap', hf, _, _⟩ := how.form (by omega)
                cases hf
                have d0 : wn.cell? ⟨g, k, none⟩ = some lt[k] := by
                  rw [how.cellAt k (by omega)]
                  simp [hltb]
                obtain ⟨m, hm⟩ := hbk.ts k hltb
                obtain ⟨ao, cap, hs⟩ := owns_shape hm
                rw [hs] at d0 hm
                have HM := hide hm
                clear hm hs how hbk
                have hm0 := owns_max HM.out
                have hself : ((⟨(markL (k / 4 + 1)).toArray⟩ : ByteArray).toList == (⟨(markL (k / 4 + 1)).toArray⟩ : ByteArray).toList) = true := by simp
                go_wp2_with fail
                generalize hmk : (⟨(markL (k / 4 + 1)).toArray⟩ : ByteArray) = MK at *
                have HMK := hide hmk
                clear hmk
                go_loopw [12] (fun i w2 => ∃ j : Nat, j ≤ m ∧ i = .int .i64 j ∧ Kept NoB wn w2) (fun i _ => m - (intOf i).toNat)
                case atStart => exact ⟨0, by omega, rfl, Kept.refl _ _⟩
                case round =>
                  obtain ⟨j, hj, rfl, hk2⟩ := hrel
                  rename World => w8
                  replace HM := hide (Marks.keepN HM.out hk2)
                  replace hkept := hkept.trans hk2
                  replace d0 := hk2.cellN d0
                  replace c0 := hk2.cellN c0
                  replace c1 := hk2.cellN c1
                  replace c2 := hk2.cellN c2
                  replace c3 := hk2.cellN c3
                  by_cases hlt2 : j < m
                  · obtain ⟨g2, cap2, hf2, e0⟩ := marks_at HM.out (Nat.succ_pos _) j hlt2
                    cases hf2
                    have e1 : w8.cell? ⟨g2, j * 6, none⟩ = some (.string MK) := by
                      have := e0
                      rw [← HMK.out]
                      simpa [tz, enCells, markS] using this
                    clear e0
                    go_wp2_with fail
                    go_roundw
                    case rel => exact ⟨j + 1, by omega, by go_num, hk2⟩
                    case measure => simp [intOf]; omega
                  · go_wp2_with fail
                    go_roundw
                    case rel => exact ⟨k + 1, by omega, by go_num, hkept⟩
                    case measure => simp [intOf]; omega
              · go_wp2_with fail
                go_ret
                exact ⟨rfl, hkept⟩
end Go.Proofs.YtidioioldlmciaaDoor
