import Derived.Test.YtfcflnnleadpkaaGreatTjJ
import Derived.Deep.RegionHeld3
import Derived.Deep.CutRange
import Derived.Deep.LoopGhost
import Derived.Deep.RegionWith
namespace Go.Proofs.YtfcflnnleadpkaaGreat
open Go.RowKit
variable {E : Env} {w : World} {mute : Bool} {st : WS} {f i j p : Nat}

set_option maxHeartbeats 4000000 in
set_option maxRecDepth 100000 in
theorem All_any (K : EnvOk E) (Q : Parts E f) : AllOk E f := by
  intro w st h hr
  obtain ⟨j, hm⟩ := Q.main
  have k0 := h.cP
  have kM := h.cM
  have kO := h.cO
  have HH := hide h
  have HR := hide hr
  have HM := hide hm
  have hbl := bot_lt (R := E.R) K.n1
  have hml := (wfS_lt _ _ _ hm).1
  have HW := hide (show allW E f st = allTo E f st E.np from rfl)
  have HOK := hide (allTo_ok (f := f) K Q hr)
  have hnp := K.np
  clear h hr hm
  go_enter Tryz.func17, Tryz.ntmps17
  go_wp2_with fail
  go_region_held3 (fun w' => w'.cell? ⟨E.wb, 0, none⟩ = some (.pointer (some ⟨E.pb, 0, none⟩)) ∧ w'.cell? ⟨E.pb, 2, none⟩ = some (.int .i64 (E.main : Int)) ∧ w'.cell? ⟨E.pb, 0, none⟩ = some (.pointer (some ⟨E.ob, 0, none⟩)))
    (first
      | go_keep
      | exact ⟨hat.cP, hat.cM, hat.cO⟩)
    (first
      | (go_at_call 30; refine (Bottom_any _ _ _ _ _ _ _ K.n8 ((unhide HH).drewN 1).ord).mono ?_; rintro e w' ⟨rfl, rfl⟩)
      | (go_at_call 31; refine (wstmt_ok K f _ false st E.main _ j ((unhide HH).drewN 1) (unhide HR) (unhide HM) hbl hml).mono ?_; rintro e w1 ⟨rfl, hat, hfr⟩))
  have HAT := hide (show At E w1 false (allTo E f st 0).2 from hat)
  have HFR := hide ((Fr.drewN (Fr.refl E w) 1).trans hfr)
  clear hat hfr k0 kM kO
  go_wp2_with fail
  go_loopg [3, 4] (E.np) (fun g x d wr => ∃ k : Nat, k + g = E.np ∧ d = .int .i64 (k : Int) ∧ x = .bool (allTo E f st k).1 ∧ At E wr false (allTo E f st k).2 ∧ Fr E w wr)
  case atStart => exact ⟨0, Nat.zero_add _, rfl, rfl, unhide HAT, unhide HFR⟩
  case round =>
    obtain ⟨k, hkg, rfl, rfl, hat, hfr⟩ := hrel
    have hk : k ≤ E.np := by omega
    have q0 := hat.cP
    have q1 := hat.cL
    have qp := hat.cPr
    have HA := hide hat
    have HF := hide hfr
    by_cases hlt : k < E.np
    · have hlt' : (k : Int) < (E.np : Int) := by omega
      have qx := hat.cX
      rw [sl_pos (by omega)] at qp qx
      obtain ⟨m, jj, em, hj⟩ := Q.proc k hlt
      have p1 := hat.ps.cell hlt
      rw [em] at p1
      have HEP := hide em
      have x1 : wr.cell? ⟨E.gx, k, none⟩ = some (.int .i64 (((allTo E f st k).2.X k : Nat) : Int)) := hat.rx.cell hlt
      have HK0 := hide (unhide HOK k hk)
      have hXn := (unhide HK0).X k hlt
      have hmm := (wfS_lt _ _ _ hj).1
      have HJ := hide hj
      have HO1 := hide (wk_ok (mute := false) K hj hXn (unhide HK0))
      have HT := hide (show allTo E f st (k + 1) = thrS E f k (allTo E f st k) from rfl)
      have HEM := hide (show (E.P k).toNat = m by omega)
      have HT2 : Hid (allTo E f st (k + 1) = thrR E k (allTo E f st k).1 (wk E f false m ((allTo E f st k).2.X k) (allTo E f st k).2).2.1 (wk E f false m ((allTo E f st k).2.X k) (allTo E f st k).2).2.2) := by
        have h := unhide HT
        unfold thrS at h
        rw [unhide HEM] at h
        exact hide h
      clear hat hfr hj em HT HEM
      generalize allTo E f st k = A at *
      obtain ⟨b, sa⟩ := A
      obtain ⟨y, HY⟩ : ∃ y, Hid (wk E f false m (sa.X k) sa = y) := ⟨_, rfl⟩
      simp only [unhide HY] at HT2 HO1
      obtain ⟨y1, y2, y3⟩ := y
      have HC : Hid (∀ w0, At E w0 false sa → Fr E w w0 → Calls Tryz.prog 31 #[.pointer (some ⟨E.wb, 0, none⟩), .int .i64 (m : Int), .int .i64 ((sa.X k : Nat) : Int)] w0 fun e w' => e = .returned (.tuple #[.int .i64 (y1 : Int), .int .i64 (y2 : Int)]) ∧ At E w' false y3 ∧ Fr E w w') := by
        refine hide fun w0 hA hFr => (wstmt_ok K f _ false sa m _ jj hA (unhide HK0) (unhide HJ) hXn hmm).mono ?_
        rintro e w3 ⟨rfl, hat, hfr⟩
        rw [unhide HY] at hat ⊢
        exact ⟨rfl, hat, hFr.trans hfr⟩
      go_upto_region 6 with fail
      go_cut [5, 6] from 25 to 103 (fun v5 v6 wx => v5 = .int .i64 (y1 : Int) ∧ v6 = .int .i64 (y2 : Int) ∧ At E wx false y3 ∧ Fr E w wx)
      case first =>
        go_region_with (first
          | (go_at_call 31; refine (unhide HC _ ((unhide HA).drewN 1) ((unhide HF).drewN 1)).mono ?_; rintro e w3 ⟨rfl, hat, hfr⟩))
        all_goals (go_wp2_with fail; go_meet; exact ⟨rfl, rfl, hat, hfr⟩)
      case rest =>
        obtain ⟨rfl, rfl, hat, hfr⟩ := hcut
        have c1 := hat.cL
        have cT := hat.cT
        rw [sl_pos (by omega)] at cT
        have t1 : wc.cell? ⟨E.gt, k, none⟩ = some (.int .i64 ((y3.T k : Nat) : Int)) := hat.rt.cell hlt
        have HAc := hide hat
        have HFc := hide hfr
        have hTn : y3.T k < E.n := (unhide HO1).2.2.T k hlt
        have hy2 : y2 < E.n := (unhide HO1).2.1
        have cLw := hat.cLow
        have cR := hat.cRa
        have cz := hat.fz 3
        have tz := hat.rt.fz (by omega) k
        have HJN := hide (K.L.jn_lt hy2 hTn)
        have hw1 : Hid (Value.int .i64 ((k : Int) + 1) = Value.int .i64 ((k + 1 : Nat) : Int)) := hide (congrArg (Value.int .i64) (by omega))
        clear hat hfr
        go_wp2_with fail
        refine (wjoin_any K.L K.n8 (unhide HAc) hy2 hTn).mono ?_
        rintro e w4 ⟨rfl, rfl⟩
        by_cases hj : jn E.R E.n y2 (y3.T k) = y3.T k
        · have HE := hide (show thrR E k b y2 y3 = (b, y3) by unfold thrR; rw [if_pos hj])
          have q2 : (((jn E.R E.n y2 (y3.T k) : Nat) : Int) != ((y3.T k : Nat) : Int)) = false := by simp [hj]
          clear hj
          go_wp2_with fail
          go_roundg (gk - 1)
          case measure => omega
          case rel => exact ⟨k + 1, by omega, unhide hw1, by rw [unhide HT2, unhide HE], by rw [unhide HT2, unhide HE]; exact unhide HAc, unhide HFc⟩
        · have q2 : (((jn E.R E.n y2 (y3.T k) : Nat) : Int) != ((y3.T k : Nat) : Int)) = true := by simp; omega
          by_cases hl : E.low = true
          · have HE := hide (show thrR E k b y2 y3 = (b, { y3 with T := setF y3.T k (jn E.R E.n y2 (y3.T k)), ra := true }) by unfold thrR; rw [if_neg hj, if_pos hl])
            rw [hl] at cLw
            have HT := hide ((unhide HAc).setT K.S hlt (jn E.R E.n y2 (y3.T k)))
            clear hj
            generalize jn E.R E.n y2 (y3.T k) = x at *
            have r3 := (unhide HT).1.cRa
            have rz := (unhide HT).1.fz 3
            have HTT := hide ((unhide HT).1.turn K.S 3 (.bool true) true false y3.bad rfl)
            go_wp2_with fail
            go_roundg (gk - 1)
            case measure => omega
            case rel => exact ⟨k + 1, by omega, unhide hw1, by rw [unhide HT2, unhide HE], by rw [unhide HT2, unhide HE]; exact (unhide HTT).1, (unhide HFc).trans ((unhide HT).2.trans (unhide HTT).2)⟩
          · have hl' : E.low = false := by simpa using hl
            have HE := hide (show thrR E k b y2 y3 = (false, y3) by unfold thrR; rw [if_neg hj, if_neg hl])
            rw [hl'] at cLw
            clear hj
            go_wp2_with fail
            go_roundg (gk - 1)
            case measure => omega
            case rel => exact ⟨k + 1, by omega, unhide hw1, by rw [unhide HT2, unhide HE], by rw [unhide HT2, unhide HE]; exact unhide HAc, unhide HFc⟩
    · have hke : k = E.np := by omega
      subst hke
      have hlt' : decide ((E.np : Int) < (E.np : Int)) = false := by simp
      clear hat hfr
      obtain ⟨pa, pc, hps⟩ := sl_form E.np E.gp E.cp
      rw [hps] at qp
      go_wp2_with fail
      go_ret
      exact ⟨by rw [unhide HW]; rfl, by rw [unhide HW]; exact ⟨unhide HA, unhide HF⟩⟩

end Go.Proofs.YtfcflnnleadpkaaGreat
