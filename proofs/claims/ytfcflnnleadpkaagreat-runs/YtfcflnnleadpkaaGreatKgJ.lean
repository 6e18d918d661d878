import Derived.Test.YtfcflnnleadpkaaGreatKeJ
import Derived.Test.YtfcflnnleadpkaaGreatFkJ
import Derived.Test.YtfcflnnleadpkaaGreatLfJ
import Derived.Test.YtfcflnnleadpkaaGreatRaJ
namespace Go.Proofs.YtfcflnnleadpkaaGreat
open Go.RowKit

variable {G : RD} {F : Nat} {w : World} {ov : Value} {st : RS} {k : Nat}

set_option maxHeartbeats 400000 in
set_option maxRecDepth 100000 in
theorem pStmt0 (h : PAt G w ov st k) (h0 : st.fuel = 0) {x : Int} : Calls Tryz.prog 23 #[.pointer (some ⟨G.b, 0, none⟩), .int .i64 x] w (PrAt G k (st, 0)) := by
  have HH := hide h
  clear h
  go_enter Tryz.func23, Tryz.ntmps23
  go_wp2_with fail
  refine (pFuel0 (unhide HH) h0).mono ?_
  rintro e w' ⟨rfl, rfl⟩
  go_wp2_with fail
  go_ret
  exact ⟨rfl, ov, unhide HH⟩

set_option maxHeartbeats 4000000 in
set_option maxRecDepth 100000 in
theorem pStmt_step (K : QK G F) {g : Nat} (IH : Hid (PsOk G F g)) : PsOk G F (g + 1) := by
  intro w ov st k i j f h hin hw htb hF hg hk
  by_cases hf0 : st.fuel = 0
  · have HX := hide (show exD G F (g + 1) i k st = (st, 0) from exS_spent hf0)
    rw [unhide HX]
    exact pStmt0 h hf0
  · have hfb : st.fuel ≤ 10000 := by have := hin.out; omega
    have HH := hide h
    have HI := hide hin.dec
    have hgd : (dec st).fuel ≤ g := by show st.fuel - 1 ≤ g; omega
    have hi0 : i < G.D.s.size := (wfS_lt _ _ _ hw).1
    have hb0 := bt_eq G.D.s i hi0
    have hi' : (i : Int) < (G.D.s.size : Int) := by omega
    have hsz := K.K.O.sz
    have hi3 : (i : Int) < 300 := by omega
    clear h hin
    cases f with
    | zero => simp [wfS] at hw
    | succ f =>
      go_enter Tryz.func23, Tryz.ntmps23
      go_wp2_with fail
      refine (pFuel1 K.b0 (unhide HH) hf0 hfb).mono ?_
      rintro e w1 ⟨rfl, hd⟩
      have HD := hide hd
      have HD1 := hide (fun X : Obj => hd.alloc X)
      have p0 := hd.pt (i := i) (j := 0) (by omega) (by omega)
      have p1 := hd.pt (i := i) (j := 1) (by omega) (by omega)
      have p2 := hd.pt (i := i) (j := 2) (by omega) (by omega)
      simp only [Nat.add_zero] at p0
      have pS := hd.tx
      have hlt := hd.lt
      clear hd HH
      rcases wfS_letter hw with hc | hc | hc | hc | hc | hc | hc | hc
      · rcases hc with hc | hc
        · have HX := hide (show exD G F (g + 1) i k st = (dec st, 1) from exS_no hf0 (by omega) (by omega) (by omega) (by omega) (by omega) (by omega) (by omega) (by omega) (by omega))
          rw [hc] at hb0
          clear hw htb hc
          go_wp2_with fail
          go_ret
          rw [unhide HX]
          exact ⟨rfl, ov, unhide HD1 _⟩
        · have HX := hide (show exD G F (g + 1) i k st = (dec st, 2) from exS_x hf0 hc)
          rw [hc] at hb0
          clear hw htb hc
          go_wp2_with fail
          go_ret
          rw [unhide HX]
          exact ⟨rfl, ov, unhide HD1 _⟩
      · obtain ⟨m, e1, e2⟩ := wfS_inv_seq hw hc
        obtain ⟨t0, t1, s1, s2⟩ := htb.1 hc
        rw [e1] at t1 s2
        rw [t0] at p0
        rw [t1] at p1
        have E1 := hide e1
        have E2 := hide e2
        have S1 := hide s1
        have S2 := hide s2
        have HSK := hide (skS_of f (i + 1) m F e1 (by omega))
        rcases hc with hc | hc
        · have HX := hide (show exD G F (g + 1) i k st = thenW 1 (exD G F g (i + 1) k (dec st)) (exD G F g m k) by
            show exS _ _ _ _ _ _ _ _ = _
            rw [exS_seq hf0 hc, unhide HSK]; rfl)
          rw [hc] at hb0
          clear hw htb hc e1 e2 t0 t1 s1 s2
          go_wp2_with fail
          refine (pBoth K IH (unhide HD1 _) (unhide HI) hgd hk (a := i + 1) (b := m) (by omega) (by omega) (by omega : f ≤ F) (unhide E1) (unhide E2) (unhide S1) (unhide S2)).mono ?_
          rintro e w2 ⟨rfl, ov2, hr2⟩
          have HR2 := hide hr2
          clear hr2
          go_wp2_with fail
          go_ret
          rw [unhide HX]
          exact ⟨rfl, ov2, unhide HR2⟩
        · have HX := hide (show exD G F (g + 1) i k st = thenW 2 (exD G F g (i + 1) k (dec st)) (exD G F g m k) by
            show exS _ _ _ _ _ _ _ _ = _
            rw [exS_t hf0 hc, unhide HSK]; rfl)
          rw [hc] at hb0
          clear hw htb hc e1 e2 t0 t1 s1 s2
          go_wp2_with fail
          refine (pAttempt K IH (unhide HD1 _) (unhide HI) hgd hk (a := i + 1) (b := m) (by omega) (by omega) (by omega : f ≤ F) (unhide E1) (unhide E2) (unhide S1) (unhide S2)).mono ?_
          rintro e w2 ⟨rfl, ov2, hr2⟩
          have HR2 := hide hr2
          clear hr2
          go_wp2_with fail
          go_ret
          rw [unhide HX]
          exact ⟨rfl, ov2, unhide HR2⟩
      · obtain ⟨e1, e2⟩ := wfS_inv_eq hw hc
        obtain ⟨t0, t1, s1⟩ := htb.2.1 hc
        rw [t0] at p0
        rw [t1] at p1
        have E1 := hide e1
        have E2 := hide e2
        have S1 := hide s1
        have HX := hide (show exD G F (g + 1) i k st = setW (dec st) (bt G.D.s (i + 1) - 97).toNat (evE (bt G.D.s) (dec st).V f (i + 2)) from (exS_eq hf0 hc).trans (by rw [evE_fuel f _ _ F e2 (by omega)]; rfl))
        rw [hc] at hb0
        clear hw htb hc e1 e2 t0 t1 s1
        go_wp2_with fail
        refine (pSet K (unhide HD1 _) (unhide HI) (a := i + 1) (b := i + 2) (by omega) (by omega) (unhide E1) (unhide E2) (unhide S1)).mono ?_
        rintro e w2 ⟨rfl, ov2, hr2⟩
        have HR2 := hide hr2
        clear hr2
        go_wp2_with fail
        go_ret
        rw [unhide HX]
        exact ⟨rfl, ov2, unhide HR2⟩
      · obtain ⟨m, q, e1, e2, e3⟩ := wfS_inv_i hw hc
        obtain ⟨t0, t1, t2, s1, s2, s3⟩ := htb.2.2.1 hc
        rw [e1] at t1 t2 s2 s3
        simp only at t2 s3
        rw [e2] at t2 s3
        rw [t0] at p0
        rw [t1] at p1
        rw [t2] at p2
        have E1 := hide e1
        have E2 := hide e2
        have E3 := hide e3
        have S1 := hide s1
        have S2 := hide s2
        have S3 := hide s3
        have HX := hide (show exD G F (g + 1) i k st = ifW (dec st) (evE (bt G.D.s) (dec st).V f (i + 1)) (exD G F g m k) (exD G F g q k) from (exS_i hf0 hc).trans (by rw [evE_fuel f _ _ F e1 (by omega), skE_of f _ _ F e1 (by omega), skS_of f _ _ F e2 (by omega)]; rfl))
        rw [hc] at hb0
        clear hw htb hc e1 e2 e3 t0 t1 t2 s1 s2 s3
        go_wp2_with fail
        refine (pChoose K IH (unhide HD1 _) (unhide HI) hgd hk (a := i + 1) (b := m) (c := q) (by omega) (by omega) (by omega) (by omega : f ≤ F) (unhide E1) (unhide S1) (unhide E2) (unhide E3) (unhide S2) (unhide S3)).mono ?_
        rintro e w2 ⟨rfl, ov2, hr2⟩
        have HR2 := hide hr2
        clear hr2
        go_wp2_with fail
        go_ret
        rw [unhide HX]
        exact ⟨rfl, ov2, unhide HR2⟩
      · obtain ⟨m, e1, e2⟩ := wfS_inv_w hw hc
        obtain ⟨t0, t1, s1, s2⟩ := htb.2.2.2.1 hc
        rw [e1] at t1 s2
        rw [t0] at p0
        rw [t1] at p1
        have E1 := hide e1
        have E2 := hide e2
        have S1 := hide s1
        have S2 := hide s2
        have HX := hide (show exD G F (g + 1) i k st = lpW (exD G F g m k) (fun V => evE (bt G.D.s) V f (i + 1)) g (dec st) from (exS_w hf0 hc).trans (by
          have e5 : (fun V => evE (bt G.D.s) V F (i + 1)) = (fun V => evE (bt G.D.s) V f (i + 1)) := by funext V; exact evE_fuel f _ _ F e1 (by omega)
          rw [e5, skE_of f _ _ F e1 (by omega)]; rfl))
        rw [hc] at hb0
        clear hw htb hc e1 e2 t0 t1 s1 s2
        go_wp2_with fail
        refine (pLoop K IH (unhide HD1 _) (unhide HI) hgd hk (a := i + 1) (b := m) (by omega) (by omega) (by omega : f ≤ F) (unhide E1) (unhide S1) (unhide E2) (unhide S2)).mono ?_
        rintro e w2 ⟨rfl, ov2, hr2⟩
        have HR2 := hide hr2
        clear hr2
        go_wp2_with fail
        go_ret
        rw [unhide HX]
        exact ⟨rfl, ov2, unhide HR2⟩
      · obtain ⟨e1, e2, e3⟩ := wfS_inv_r hw hc
        obtain ⟨t0, t1⟩ := htb.2.2.2.2.1 hc
        rw [t0] at p0
        rw [t1] at p1
        obtain ⟨d, ed, hd⟩ := isDB_nat e1
        obtain ⟨v, ev, hv⟩ := isVar_nat e2
        have HED := hide ed
        have HEV := hide ev
        have hi1 := isDB_lt e1
        have hi2 := isVar_lt e2
        have HX := hide (show exD G F (g + 1) i k st = rdW (dec st) d v ((G.inp d)[(dec st).tk d]?) from (exS_r hf0 hc).trans (by rw [ed, ev]; rfl))
        rw [hc] at hb0
        clear hw htb hc e1 e2 e3 t0 t1 ed ev
        go_wp2_with fail
        refine (pRead K (unhide HD1 _) (unhide HI) (a := i + 1) (b := i + 2) (by omega) (by omega) (unhide HED) hd (unhide HEV) hv hi1 hi2).mono ?_
        rintro e w2 ⟨rfl, ov2, hr2⟩
        have HR2 := hide hr2
        clear hr2
        go_wp2_with fail
        go_ret
        rw [unhide HX]
        exact ⟨rfl, ov2, unhide HR2⟩
      · obtain ⟨e1, e2⟩ := wfS_inv_o hw hc
        obtain ⟨t0, t1, s1⟩ := htb.2.2.2.2.2.1 hc
        rw [t0] at p0
        rw [t1] at p1
        obtain ⟨d, ed, hd⟩ := isDB_nat e1
        have HED := hide ed
        have hi1 := isDB_lt e1
        have E2 := hide e2
        have S1 := hide s1
        have HX := hide (show exD G F (g + 1) i k st = outW (dec st) d (evE (bt G.D.s) (dec st).V f (i + 2)) from (exS_o hf0 hc).trans (by rw [evE_fuel f _ _ F e2 (by omega), ed]; rfl))
        rw [hc] at hb0
        clear hw htb hc e1 e2 t0 t1 s1 ed
        go_wp2_with fail
        refine (pPut K (unhide HD1 _) (unhide HI) (a := i + 1) (b := i + 2) (by omega) (by omega) (unhide HED) hi1 (unhide E2) (unhide S1)).mono ?_
        rintro e w2 ⟨rfl, ov2, hr2⟩
        have HR2 := hide hr2
        clear hr2
        go_wp2_with fail
        go_ret
        rw [unhide HX]
        exact ⟨rfl, ov2, unhide HR2⟩
      · obtain ⟨e1, e2⟩ := wfS_inv_c hw hc
        have t0 := htb.2.2.2.2.2.2 hc
        rw [t0] at p0
        obtain ⟨d, ed, hd⟩ := isDB_nat e1
        have HED := hide ed
        have hi1 := isDB_lt e1
        have HX := hide (show exD G F (g + 1) i k st = if 8 ≤ k then (dec st, 2) else exD G F g (G.D.S (d + 1)).toNat (k + 1) (dec st) from (exS_c hf0 hc).trans (by rw [ed]; rfl))
        rw [hc] at hb0
        clear hw htb hc e1 e2 t0 ed
        go_wp2_with fail
        refine (pCall K IH (unhide HD1 _) (unhide HI) hgd hk (a := i + 1) (by omega) (unhide HED) hd hi1).mono ?_
        rintro e w2 ⟨rfl, ov2, hr2⟩
        have HR2 := hide hr2
        clear hr2
        obtain ⟨r, HR⟩ : ∃ r, Hid ((if 8 ≤ k then (dec st, 2) else exD G F g (G.D.S (d + 1)).toNat (k + 1) (dec st)) = r) := ⟨_, rfl⟩
        rw [unhide HR] at HR2
        rw [unhide HR]
        go_wp2_with fail
        go_ret
        rw [unhide HX, unhide HR]
        exact ⟨rfl, ov2, unhide HR2⟩

theorem pStmt (K : QK G F) : ∀ g, PsOk G F g := by
  intro g
  induction g with
  | zero =>
    intro w ov st k i j f h hin hw htb hF hg hk
    have hf0 : st.fuel = 0 := by omega
    have e2 : exD G F 0 i k st = (st, 0) := exS_spent hf0
    rw [e2]
    exact pStmt0 h hf0
  | succ g ih => exact pStmt_step K (hide ih)

end Go.Proofs.YtfcflnnleadpkaaGreat

namespace Go.Proofs.YtfcflnnleadpkaaGreat
open Go.RowKit
variable {D : FD} {w : World} {st : WS} {f : Nat}

/-- The labels at the start. -/
def bV (D : FD) (F : Nat → Nat) (m : Nat) : Nat → Nat := fun k => if k < m then v0 (dE D) k else F k
def bB (D : FD) (F : Nat → Nat) (m : Nat) : Nat → Nat := fun k => if k < m then bot D.R D.n else F k
theorem bV_step {F : Nat → Nat} {m : Nat} : setF (bV D F m) m (v0 (dE D) m) = bV D F (m + 1) := by
  funext k; unfold setF bV
  by_cases e : k = m
  · rw [if_pos e, if_pos (by omega), e]
  · rw [if_neg e]
    by_cases h : k < m
    · rw [if_pos h, if_pos (by omega)]
    · rw [if_neg h, if_neg (by omega)]
theorem bB_step {F : Nat → Nat} {m : Nat} : setF (bB D F m) m (bot D.R D.n) = bB D F (m + 1) := by
  funext k; unfold setF bB
  by_cases e : k = m
  · rw [if_pos e, if_pos (by omega)]
  · rw [if_neg e]
    by_cases h : k < m
    · rw [if_pos h, if_pos (by omega)]
    · rw [if_neg h, if_neg (by omega)]
theorem bV_zero {F : Nat → Nat} : bV D F 0 = F := by funext k; unfold bV; rw [if_neg (by omega)]
theorem bB_zero {F : Nat → Nat} : bB D F 0 = F := by funext k; unfold bB; rw [if_neg (by omega)]
theorem setF_setF {F : Nat → Nat} {k x y : Nat} : setF (setF F k x) k y = setF F k y := by funext j; unfold setF; split <;> rfl
theorem begin_inv (G : GOk D f) : LInv (dE D) f { st with V := bV D st.V D.nv, X := bB D st.X D.np, T := bB D st.T D.np, ra := true } := by
  have hV : ∀ k, k < D.nv → bV D st.V D.nv k = v0 (dE D) k := fun k hk => by unfold bV; rw [if_pos hk]
  have hX : ∀ (F : Nat → Nat) k, k < D.np → bB D F D.np k = bot D.R D.n := fun F k hk => by unfold bB; rw [if_pos hk]
  have hb := bot_lt (R := D.R) G.O.A.n1
  have hv : ∀ k, k < D.nv → v0 (dE D) k < D.n ∧ (0 ≤ fxE (dE D) k → (v0 (dE D) k : Int) = fxE (dE D) k) := by
    intro k hk
    unfold v0
    by_cases e : bt D.s k = 63
    · have h1 := G.V.opn k hk e
      have h2 : ¬ 0 ≤ fixV (bt (dE D).s) (dE D).n k := by show ¬ 0 ≤ fixV (bt D.s) D.n k; omega
      rw [if_neg h2]
      exact ⟨hb, fun h => absurd h h2⟩
    · obtain ⟨d, _, h1, h2⟩ := G.V.lev k hk e
      have h3 : fixV (bt (dE D).s) (dE D).n k = (d : Int) := h1
      rw [if_pos (by rw [h3]; omega)]
      refine ⟨by rw [h3]; exact h2, fun _ => ?_⟩
      show (((fixV (bt (dE D).s) (dE D).n k).toNat : Nat) : Int) = fixV (bt (dE D).s) (dE D).n k
      rw [h3]; rfl
  refine ⟨⟨fun k hk => ?_, fun k hk => ?_, fun k hk => ?_⟩, fun k hk hf => ?_, fun V' X' T' h1 h2 h3 hF _ => ⟨fun k hk => ?_, fun k hk => ?_, fun k hk => ?_⟩, fun h => by cases h⟩
  · show bV D st.V D.nv k < D.n; rw [hV k hk]; exact (hv k hk).1
  · show bB D st.X D.np k < D.n; rw [hX _ k hk]; exact hb
  · show bB D st.T D.np k < D.n; rw [hX _ k hk]; exact hb
  · show (bV D st.V D.nv k : Int) = _; rw [hV k hk]; exact (hv k hk).2 hf
  · show Le D.R D.n (bV D st.V D.nv k) (V' k)
    rw [hV k hk]
    by_cases hf : 0 ≤ fxE (dE D) k
    · have e1 := (hv k hk).2 hf
      have e2 := hF k hk hf
      have e3 : v0 (dE D) k = V' k := by omega
      rw [e3]; exact G.O.A.refl (h1 k hk)
    · have e1 : v0 (dE D) k = bot D.R D.n := by
        have hf' : ¬ 0 ≤ fixV (bt (dE D).s) (dE D).n k := hf
        unfold v0
        rw [if_neg hf']; rfl
      rw [e1]; exact G.O.A.bl (h1 k hk)
  · show Le D.R D.n (bB D st.X D.np k) (X' k); rw [hX _ k hk]; exact G.O.A.bl (h2 k hk)
  · show Le D.R D.n (bB D st.T D.np k) (T' k); rw [hX _ k hk]; exact G.O.A.bl (h3 k hk)

set_option maxHeartbeats 2000000 in
set_option maxRecDepth 100000 in
theorem fBegin (G : GOk D f) (h : Fl D w st) : Calls Tryz.prog 48 #[.pointer (some ⟨D.b, 0, none⟩)] w fun e w' => e = .returned (.tuple #[]) ∧ (∃ st', Fl D w' st' ∧ LInv (dE D) f { st' with ra := true }) ∧ Kf D.b w w' := by
  have HI := hide (begin_inv (st := st) G)
  have HF0 := hide (show Fl D w { st with V := bV D st.V 0 } by rw [bV_zero]; exact h)
  clear h
  go_enter Tryz.func48, Tryz.ntmps48
  go_wp2_with fail
  go_loopw [2] (fun d wr => ∃ k : Nat, k ≤ D.nv ∧ d = .int .i64 (k : Int) ∧ Fl D wr { st with V := bV D st.V k } ∧ Kf D.b w wr) (fun d _ => D.nv - (intOf d).toNat)
  case atStart => exact ⟨0, Nat.zero_le _, rfl, unhide HF0, Kf.refl _ _⟩
  case round =>
    obtain ⟨k, hk, rfl, hf, hkf⟩ := hrel
    have kc := hf.cv
    have HF := hide hf
    have HK := hide hkf
    clear hkf
    by_cases hlt : k < D.nv
    · have h8 := G.O.nv
      have hk8 : k < 8 := by omega
      have hk8' : (k : Int) < 8 := by omega
      have hks : k < D.s.size := by have := G.O.vs; omega
      have kv := hf.lv (k := k) hk8
      have zv := hf.fz (1046 + k)
      have kb := hf.bo G.O.A
      have HF2 := hide (hf.setV (k := k) (x := bot D.R D.n) hk8)
      have HK2 := hide ((unhide HK).drewN 1 |>.setAny (1046 + k) (.int .i64 (bot D.R D.n : Nat)))
      clear hf
      go_wp2_with fail
      go_region
      all_goals
        go_wp2_with fail
        refine (pOpen _ _ 134 k D.s ((unhide HF2).drew).tx hks).mono ?_
        rintro e w' ⟨rfl, hw'⟩
        rw [hw']
        clear hw'
        cases ho : (bt D.s k == 63)
        · have h63 : bt D.s k ≠ 63 := by simpa using ho
          obtain ⟨d, e1, e2, e3⟩ := G.V.lev k hlt h63
          have HV := hide (show v0 (dE D) k = d by
            have e2' : fixV (bt (dE D).s) (dE D).n k = (d : Int) := e2
            unfold v0; rw [if_pos (by rw [e2']; omega), e2']; rfl)
          have HE1 := hide e1
          clear e1 e2 h63 kv kb kc
          have kv := ((unhide HF2).drew).lv (k := k) hk8
          have zv := ((unhide HF2).drew).fz (1046 + k)
          generalize hW : (wr.setCell ⟨D.b, 1046 + k, none⟩ (.int .i64 (bot D.R D.n : Nat))).drew = wq at *
          have HF3 := hide (show Fl D wq { st with V := setF (bV D st.V k) k (bot D.R D.n) } by rw [← hW]; exact (unhide HF2).drew)
          have HK3 := hide (show Kf D.b w wq by rw [← hW]; exact unhide HK2)
          clear hW
          go_wp2_with fail
          go_region_with (go_at_call 82; refine (pDigit_at _ _ 134 k D.s rfl ((unhide HF3).drew).tx hks (unhide HE1)).mono ?_; rintro e w' ⟨rfl, rfl⟩)
          all_goals
            go_wp2_with fail
            go_roundw
            case rel =>
              refine ⟨k + 1, by omega, by go_num, ?_, ((unhide HK3).drewN 1).setAny _ _⟩
              have h9 := (unhide HF3).drew.setV (k := k) (x := d) hk8
              rw [← bV_step, unhide HV, ← setF_setF (F := bV D st.V k) (k := k) (x := bot D.R D.n) (y := d)]
              exact h9
            case measure => simp [intOf]; omega
        · have h63 : bt D.s k = 63 := by simpa using ho
          have HV := hide (show v0 (dE D) k = bot D.R D.n by
            have e2 : ¬ 0 ≤ fixV (bt (dE D).s) (dE D).n k := by have := G.V.opn k hlt h63; show ¬ 0 ≤ fixV (bt D.s) D.n k; omega
            unfold v0; rw [if_neg e2]; rfl)
          clear h63
          go_wp2_with fail
          go_roundw
          case rel =>
            refine ⟨k + 1, by omega, by go_num, ?_, unhide HK2⟩
            rw [← bV_step, unhide HV]
            exact (unhide HF2).drew
          case measure => simp [intOf]; omega
    · have ek : k = D.nv := by omega
      subst ek
      have HF3 := hide (show Fl D wr { st with V := bV D st.V D.nv, X := bB D st.X 0, T := bB D st.T 0 } by rw [bB_zero, bB_zero]; exact unhide HF)
      clear hf
      go_wp2_with fail
      clear kc
      go_loopw [3] (fun d wr => ∃ k : Nat, k ≤ D.np ∧ d = .int .i64 (k : Int) ∧ Fl D wr { st with V := bV D st.V D.nv, X := bB D st.X k, T := bB D st.T k } ∧ Kf D.b w wr) (fun d _ => D.np - (intOf d).toNat)
      case atStart => exact ⟨0, Nat.zero_le _, rfl, unhide HF3, unhide HK⟩
      case round =>
        obtain ⟨k, hk, rfl, hf, hkf⟩ := hrel
        have kc := hf.cp
        have HF := hide hf
        have HK := hide hkf
        clear hkf
        by_cases hlt : k < D.np
        · have h4 := G.O.np
          have hk4 : k < 4 := by omega
          have hk4' : (k : Int) < 4 := by omega
          have kx := hf.lx (k := k) hk4
          have zx := hf.fz (1054 + k)
          have kb := hf.bo G.O.A
          have HF2 := hide (hf.setX (k := k) (x := bot D.R D.n) hk4)
          have HK2 := hide ((unhide HK).drewN 1 |>.setAny (1054 + k) (.int .i64 (bot D.R D.n : Nat)))
          clear hf
          go_wp2_with fail
          go_region
          all_goals
            go_wp2_with fail
            clear kx zx kb kc
            have kt := ((unhide HF2).drew).lt (k := k) hk4
            have zt := ((unhide HF2).drew).fz (1058 + k)
            have kb := ((unhide HF2).drew).bo G.O.A
            have HF4 := hide (((unhide HF2).drew).setT (k := k) (x := bot D.R D.n) hk4)
            generalize hW : (wr.setCell ⟨D.b, 1054 + k, none⟩ (.int .i64 (bot D.R D.n : Nat))).drew = wq at *
            have HK3 := hide (show Kf D.b w wq by rw [← hW]; exact unhide HK2)
            clear hW
            go_region
            all_goals
              go_wp2_with fail
              go_roundw
              case rel =>
                refine ⟨k + 1, by omega, by go_num, ?_, ((unhide HK3).setAny _ _).drewN 1⟩
                rw [← bB_step, ← bB_step]
                exact (unhide HF4).drew
              case measure => simp [intOf]; omega
        · have ek : k = D.np := by omega
          subst ek
          go_wp2_with fail
          go_end0
          exact ⟨rfl, ⟨_, unhide HF, unhide HI⟩, unhide HK⟩

theorem fFind (G : GOk D f) (h : Fl D w st) :
    Calls Tryz.prog 22 #[.pointer (some ⟨D.b, 0, none⟩)] w fun e w' => e = .returned (.tuple #[]) ∧ (∃ st', Fl D w' st' ∧ LInv (dE D) f st' ∧ st'.ra = false) ∧ Kf D.b w w' :=
  fLoop G (fun _ _ h => fBegin G h) h

end Go.Proofs.YtfcflnnleadpkaaGreat

namespace Go.Proofs.YtfcflnnleadpkaaGreat
open Go.RowKit

def bs (l : List UInt8) : ByteArray := ⟨l.toArray⟩
/-- What a byte asks for behind it, where a statement is owed. -/
def stI (c : Int) : Option ByteArray :=
  if c = 46 ∨ c = 120 then some (bs []) else if c = 44 ∨ c = 116 then some (bs [115, 115]) else if c = 61 then some (bs [118, 101]) else if c = 105 then some (bs [101, 115, 115])
  else if c = 119 then some (bs [101, 115]) else if c = 114 then some (bs [108, 118]) else if c = 111 then some (bs [108, 101]) else if c = 99 then some (bs [112]) else none
def yesI (b : Bool) : Option ByteArray := if b = true then some (bs []) else none
def exI (nv : Nat) (c : Int) : Option ByteArray := if isOp c = true then some (bs [101, 101]) else yesI (isDB c 10 || isVar nv c)
/-- Where the part k is owed. -/
def ptI (nv N : Nat) (k c : Int) : Option ByteArray :=
  if k = 115 then stI c else if k = 101 then exI nv c else if k = 118 then yesI (isVar nv c) else if k = 108 then yesI (isDB c N) else if k = 112 then yesI (isDB c 4) else none
def tupI (x : Option ByteArray) : Value := .tuple #[.string (x.getD (bs [])), .bool x.isSome]
theorem tupI_yes (b : Bool) : tupI (yesI b) = .tuple #[.string (bs []), .bool b] := by cases b <;> rfl

set_option maxHeartbeats 800000 in
theorem stParts_any (w : World) (c : Int) :
    Calls Tryz.prog 112 #[.int .u8 c] w fun e w' => e = .returned (tupI (stI c)) ∧ w' = w := by
  have run : ∀ (x : Option ByteArray), stI c = x → (c = 46 ∨ c = 120 ∨ c = 44 ∨ c = 116 ∨ c = 61 ∨ c = 105 ∨ c = 119 ∨ c = 114 ∨ c = 111 ∨ c = 99) → Calls Tryz.prog 112 #[.int .u8 c] w fun e w' => e = .returned (tupI x) ∧ w' = w := by
    intro x hx hc
    rcases hc with rfl | rfl | rfl | rfl | rfl | rfl | rfl | rfl | rfl | rfl <;>
    · simp [stI] at hx
      subst hx
      go_enter Tryz.func112, Tryz.ntmps112
      go_wp2_with fail
      go_ret2
      exact ⟨rfl, rfl⟩
  by_cases hc : c = 46 ∨ c = 120 ∨ c = 44 ∨ c = 116 ∨ c = 61 ∨ c = 105 ∨ c = 119 ∨ c = 114 ∨ c = 111 ∨ c = 99
  · exact run _ rfl hc
  · have h1 : (c == 46) = false := by simp; omega
    have h2 : (c == 120) = false := by simp; omega
    have h3 : (c == 44) = false := by simp; omega
    have h4 : (c == 116) = false := by simp; omega
    have h5 : (c == 61) = false := by simp; omega
    have h6 : (c == 105) = false := by simp; omega
    have h7 : (c == 119) = false := by simp; omega
    have h8 : (c == 114) = false := by simp; omega
    have h9 : (c == 111) = false := by simp; omega
    have h10 : (c == 99) = false := by simp; omega
    have HS := hide (show stI c = none by unfold stI; rw [if_neg (by omega), if_neg (by omega), if_neg (by omega), if_neg (by omega), if_neg (by omega), if_neg (by omega), if_neg (by omega), if_neg (by omega)])
    clear run hc
    go_enter Tryz.func112, Tryz.ntmps112
    go_wp2_with fail
    go_ret2
    exact ⟨by rw [unhide HS]; rfl, rfl⟩

set_option maxHeartbeats 800000 in
theorem exParts_any (w : World) (b nv : Nat) (c : Int) (hv : w.cell? ⟨b, 4, none⟩ = some (.int .i64 (nv : Int))) (h0 : 0 ≤ c) (h1 : c ≤ 255) :
    Calls Tryz.prog 113 #[.pointer (some ⟨b, 0, none⟩), .int .u8 c] w fun e w' => e = .returned (tupI (exI nv c)) ∧ w' = w := by
  cases ho : isOp c
  · have HE := hide (show exI nv c = yesI (isDB c 10 || isVar nv c) by unfold exI; rw [if_neg (by simp [ho])])
    cases hd : isDB c 10
    · go_enter Tryz.func113, Tryz.ntmps113
      go_wp2_with fail
      refine (pOp _ _).mono ?_
      rintro e w' ⟨rfl, rfl⟩
      rw [ho]
      go_wp2_with fail
      refine (isDigit_any _ _ _ h0 h1).mono ?_
      rintro e w' ⟨rfl, rfl⟩
      rw [hd]
      go_wp2_with fail
      refine (pIsVar _ _ 0 nv _ (by simpa using hv) h0 h1).mono ?_
      rintro e w' ⟨rfl, rfl⟩
      go_wp2_with fail
      go_ret2
      exact ⟨by rw [unhide HE, hd, Bool.false_or, tupI_yes]; rfl, rfl⟩
    · go_enter Tryz.func113, Tryz.ntmps113
      go_wp2_with fail
      refine (pOp _ _).mono ?_
      rintro e w' ⟨rfl, rfl⟩
      rw [ho]
      go_wp2_with fail
      refine (isDigit_any _ _ _ h0 h1).mono ?_
      rintro e w' ⟨rfl, rfl⟩
      rw [hd]
      go_wp2_with fail
      go_ret2
      exact ⟨by rw [unhide HE, hd, Bool.true_or, tupI_yes]; rfl, rfl⟩
  · have HE := hide (show exI nv c = some (bs [101, 101]) by unfold exI; rw [if_pos ho])
    go_enter Tryz.func113, Tryz.ntmps113
    go_wp2_with fail
    refine (pOp _ _).mono ?_
    rintro e w' ⟨rfl, rfl⟩
    rw [ho]
    go_wp2_with fail
    go_ret2
    exact ⟨by rw [unhide HE]; rfl, rfl⟩

set_option maxHeartbeats 800000 in
theorem ptParts_any (w : World) (b nv N : Nat) (k c : Int) (hk : k = 115 ∨ k = 101 ∨ k = 118 ∨ k = 108 ∨ k = 112) (hv : w.cell? ⟨b, 4, none⟩ = some (.int .i64 (nv : Int))) (hN : w.cell? ⟨b, 3, none⟩ = some (.int .i64 (N : Int))) (h0 : 0 ≤ c) (h1 : c ≤ 255) :
    Calls Tryz.prog 99 #[.pointer (some ⟨b, 0, none⟩), .int .u8 c, .int .u8 k] w fun e w' => e = .returned (tupI (ptI nv N k c)) ∧ ∃ q, w' = w.drewN q := by
  rcases hk with rfl | rfl | rfl | rfl | rfl
  · have HE := hide (show ptI nv N 115 c = stI c from rfl)
    go_enter Tryz.func99, Tryz.ntmps99
    go_wp2_with fail
    refine (stParts_any _ _).mono ?_
    rintro e w' ⟨rfl, rfl⟩
    unfold tupI
    go_wp2_with fail
    go_ret2
    exact ⟨by rw [unhide HE]; rfl, 0, rfl⟩
  · have HE := hide (show ptI nv N 101 c = exI nv c from rfl)
    go_enter Tryz.func99, Tryz.ntmps99
    go_wp2_with fail
    refine (exParts_any _ _ _ _ hv h0 h1).mono ?_
    rintro e w' ⟨rfl, rfl⟩
    unfold tupI
    go_wp2_with fail
    go_ret2
    exact ⟨by rw [unhide HE]; rfl, 0, rfl⟩
  · have HE := hide (show ptI nv N 118 c = yesI (isVar nv c) from rfl)
    go_enter Tryz.func99, Tryz.ntmps99
    go_wp2_with fail
    refine (pIsVar _ _ 0 nv _ (by simpa using hv) h0 h1).mono ?_
    rintro e w' ⟨rfl, rfl⟩
    go_wp2_with fail
    go_ret2
    exact ⟨by rw [unhide HE, tupI_yes]; rfl, 0, rfl⟩
  · have HE := hide (show ptI nv N 108 c = yesI (isDB c N) from rfl)
    go_enter Tryz.func99, Tryz.ntmps99
    go_wp2_with fail
    refine (isDigit_any _ _ _ h0 h1).mono ?_
    rintro e w' ⟨rfl, rfl⟩
    go_wp2_with fail
    go_ret2
    exact ⟨by rw [unhide HE, tupI_yes]; rfl, 0, rfl⟩
  · have HE := hide (show ptI nv N 112 c = yesI (isDB c 4) from rfl)
    go_enter Tryz.func99, Tryz.ntmps99
    go_wp2_with fail
    refine (isDigit_any _ _ _ h0 h1).mono ?_
    rintro e w' ⟨rfl, rfl⟩
    go_wp2_with fail
    go_ret2
    exact ⟨by rw [unhide HE, tupI_yes]; rfl, 0, rfl⟩

end Go.Proofs.YtfcflnnleadpkaaGreat
