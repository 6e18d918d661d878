import Derived.Test.YtfcflnnleadpkaaKeJ
import Derived.Test.YtfcflnnleadpkaaFlJ
import Derived.Test.YtfcflnnleadpkaaVbJ
import Derived.OwnWalk
import Derived.Deep.MidRow
import Derived.Test.YtfcflnnleadpkaaLhJ
import Derived.BigQuiet
import Derived.Deep.QuietTactic
namespace Go.Proofs.Ytfcflnnleadpkaa
open Go.RowKit

variable {G : RD} {F : Nat} {w : World} {ov : Value} {st : RS} {k : Nat}

set_option maxHeartbeats 400000 in
set_option maxRecDepth 100000 in
theorem pStmt0 (h : PAt G w ov st k) (h0 : st.fuel = 0) {x : Int} : Calls Try.prog 63 #[.pointer (some ⟨G.b, 0, none⟩), .int .i64 x] w (PrAt G k (st, 0)) := by
  have HH := hide h
  clear h
  go_enter Try.func63, Try.ntmps63
  go_wp2_with fail
  refine (pFuel0 (unhide HH) h0).mono ?_
  rintro e w' ⟨rfl, rfl⟩
  go_wp2_with fail
  go_ret
  exact ⟨rfl, ov, unhide HH⟩

set_option maxHeartbeats 4000000 in
set_option maxRecDepth 100000 in
theorem pStmt_step (K : QK G F) {g : Nat} (IH : Hid (PsOk G F g)) : PsOk G F (g + 1) := by
  intro w ov st k i j f h hin hw htb hF hg hk
  by_cases hf0 : st.fuel = 0
  · have HX := hide (show exD G F (g + 1) i k st = (st, 0) from exS_spent hf0)
    rw [unhide HX]
    exact pStmt0 h hf0
  · have hfb : st.fuel ≤ 10000 := by have := hin.out; omega
    have HH := hide h
    have HI := hide hin.dec
    have hgd : (dec st).fuel ≤ g := by show st.fuel - 1 ≤ g; omega
    have hi0 : i < G.D.s.size := (wfS_lt _ _ _ hw).1
    have hb0 := bt_eq G.D.s i hi0
    have hi' : (i : Int) < (G.D.s.size : Int) := by omega
    have hsz := K.K.O.sz
    have hi3 : (i : Int) < 300 := by omega
    clear h hin
    cases f with
    | zero => simp [wfS] at hw
    | succ f =>
      go_enter Try.func63, Try.ntmps63
      go_wp2_with fail
      refine (pFuel1 K.b0 (unhide HH) hf0 hfb).mono ?_
      rintro e w1 ⟨rfl, hd⟩
      have HD := hide hd
      have HD1 := hide (fun X : Obj => hd.alloc X)
      have p0 := hd.pt (i := i) (j := 0) (by omega) (by omega)
      have p1 := hd.pt (i := i) (j := 1) (by omega) (by omega)
      have p2 := hd.pt (i := i) (j := 2) (by omega) (by omega)
      simp only [Nat.add_zero] at p0
      have pS := hd.tx
      have hlt := hd.lt
      clear hd HH
      rcases wfS_letter hw with hc | hc | hc | hc | hc | hc | hc | hc
      · rcases hc with hc | hc
        · have HX := hide (show exD G F (g + 1) i k st = (dec st, 1) from exS_no hf0 (by omega) (by omega) (by omega) (by omega) (by omega) (by omega) (by omega) (by omega) (by omega))
          rw [hc] at hb0
          clear hw htb hc
          go_wp2_with fail
          go_ret
          rw [unhide HX]
          exact ⟨rfl, ov, unhide HD1 _⟩
        · have HX := hide (show exD G F (g + 1) i k st = (dec st, 2) from exS_x hf0 hc)
          rw [hc] at hb0
          clear hw htb hc
          go_wp2_with fail
          go_ret
          rw [unhide HX]
          exact ⟨rfl, ov, unhide HD1 _⟩
      · obtain ⟨m, e1, e2⟩ := wfS_inv_seq hw hc
        obtain ⟨t0, t1, s1, s2⟩ := htb.1 hc
        rw [e1] at t1 s2
        rw [t0] at p0
        rw [t1] at p1
        have E1 := hide e1
        have E2 := hide e2
        have S1 := hide s1
        have S2 := hide s2
        have HSK := hide (skS_of f (i + 1) m F e1 (by omega))
        rcases hc with hc | hc
        · have HX := hide (show exD G F (g + 1) i k st = thenW 1 (exD G F g (i + 1) k (dec st)) (exD G F g m k) by
            show exS _ _ _ _ _ _ _ _ = _
            rw [exS_seq hf0 hc, unhide HSK]; rfl)
          rw [hc] at hb0
          clear hw htb hc e1 e2 t0 t1 s1 s2
          go_wp2_with fail
          refine (pBoth K IH (unhide HD1 _) (unhide HI) hgd hk (a := i + 1) (b := m) (by omega) (by omega) (by omega : f ≤ F) (unhide E1) (unhide E2) (unhide S1) (unhide S2)).mono ?_
          rintro e w2 ⟨rfl, ov2, hr2⟩
          have HR2 := hide hr2
          clear hr2
          go_wp2_with fail
          go_ret
          rw [unhide HX]
          exact ⟨rfl, ov2, unhide HR2⟩
        · have HX := hide (show exD G F (g + 1) i k st = thenW 2 (exD G F g (i + 1) k (dec st)) (exD G F g m k) by
            show exS _ _ _ _ _ _ _ _ = _
            rw [exS_t hf0 hc, unhide HSK]; rfl)
          rw [hc] at hb0
          clear hw htb hc e1 e2 t0 t1 s1 s2
          go_wp2_with fail
          refine (pAttempt K IH (unhide HD1 _) (unhide HI) hgd hk (a := i + 1) (b := m) (by omega) (by omega) (by omega : f ≤ F) (unhide E1) (unhide E2) (unhide S1) (unhide S2)).mono ?_
          rintro e w2 ⟨rfl, ov2, hr2⟩
          have HR2 := hide hr2
          clear hr2
          go_wp2_with fail
          go_ret
          rw [unhide HX]
          exact ⟨rfl, ov2, unhide HR2⟩
      · obtain ⟨e1, e2⟩ := wfS_inv_eq hw hc
        obtain ⟨t0, t1, s1⟩ := htb.2.1 hc
        rw [t0] at p0
        rw [t1] at p1
        have E1 := hide e1
        have E2 := hide e2
        have S1 := hide s1
        have HX := hide (show exD G F (g + 1) i k st = setW (dec st) (bt G.D.s (i + 1) - 97).toNat (evE (bt G.D.s) (dec st).V f (i + 2)) from (exS_eq hf0 hc).trans (by rw [evE_fuel f _ _ F e2 (by omega)]; rfl))
        rw [hc] at hb0
        clear hw htb hc e1 e2 t0 t1 s1
        go_wp2_with fail
        refine (pSet K (unhide HD1 _) (unhide HI) (a := i + 1) (b := i + 2) (by omega) (by omega) (unhide E1) (unhide E2) (unhide S1)).mono ?_
        rintro e w2 ⟨rfl, ov2, hr2⟩
        have HR2 := hide hr2
        clear hr2
        go_wp2_with fail
        go_ret
        rw [unhide HX]
        exact ⟨rfl, ov2, unhide HR2⟩
      · obtain ⟨m, q, e1, e2, e3⟩ := wfS_inv_i hw hc
        obtain ⟨t0, t1, t2, s1, s2, s3⟩ := htb.2.2.1 hc
        rw [e1] at t1 t2 s2 s3
        simp only at t2 s3
        rw [e2] at t2 s3
        rw [t0] at p0
        rw [t1] at p1
        rw [t2] at p2
        have E1 := hide e1
        have E2 := hide e2
        have E3 := hide e3
        have S1 := hide s1
        have S2 := hide s2
        have S3 := hide s3
        have HX := hide (show exD G F (g + 1) i k st = ifW (dec st) (evE (bt G.D.s) (dec st).V f (i + 1)) (exD G F g m k) (exD G F g q k) from (exS_i hf0 hc).trans (by rw [evE_fuel f _ _ F e1 (by omega), skE_of f _ _ F e1 (by omega), skS_of f _ _ F e2 (by omega)]; rfl))
        rw [hc] at hb0
        clear hw htb hc e1 e2 e3 t0 t1 t2 s1 s2 s3
        go_wp2_with fail
        refine (pChoose K IH (unhide HD1 _) (unhide HI) hgd hk (a := i + 1) (b := m) (c := q) (by omega) (by omega) (by omega) (by omega : f ≤ F) (unhide E1) (unhide S1) (unhide E2) (unhide E3) (unhide S2) (unhide S3)).mono ?_
        rintro e w2 ⟨rfl, ov2, hr2⟩
        have HR2 := hide hr2
        clear hr2
        go_wp2_with fail
        go_ret
        rw [unhide HX]
        exact ⟨rfl, ov2, unhide HR2⟩
      · obtain ⟨m, e1, e2⟩ := wfS_inv_w hw hc
        obtain ⟨t0, t1, s1, s2⟩ := htb.2.2.2.1 hc
        rw [e1] at t1 s2
        rw [t0] at p0
        rw [t1] at p1
        have E1 := hide e1
        have E2 := hide e2
        have S1 := hide s1
        have S2 := hide s2
        have HX := hide (show exD G F (g + 1) i k st = lpW (exD G F g m k) (fun V => evE (bt G.D.s) V f (i + 1)) g (dec st) from (exS_w hf0 hc).trans (by
          have e5 : (fun V => evE (bt G.D.s) V F (i + 1)) = (fun V => evE (bt G.D.s) V f (i + 1)) := by funext V; exact evE_fuel f _ _ F e1 (by omega)
          rw [e5, skE_of f _ _ F e1 (by omega)]; rfl))
        rw [hc] at hb0
        clear hw htb hc e1 e2 t0 t1 s1 s2
        go_wp2_with fail
        refine (pLoop K IH (unhide HD1 _) (unhide HI) hgd hk (a := i + 1) (b := m) (by omega) (by omega) (by omega : f ≤ F) (unhide E1) (unhide S1) (unhide E2) (unhide S2)).mono ?_
        rintro e w2 ⟨rfl, ov2, hr2⟩
        have HR2 := hide hr2
        clear hr2
        go_wp2_with fail
        go_ret
        rw [unhide HX]
        exact ⟨rfl, ov2, unhide HR2⟩
      · obtain ⟨e1, e2, e3⟩ := wfS_inv_r hw hc
        obtain ⟨t0, t1⟩ := htb.2.2.2.2.1 hc
        rw [t0] at p0
        rw [t1] at p1
        obtain ⟨d, ed, hd⟩ := isDB_nat e1
        obtain ⟨v, ev, hv⟩ := isVar_nat e2
        have HED := hide ed
        have HEV := hide ev
        have hi1 := isDB_lt e1
        have hi2 := isVar_lt e2
        have HX := hide (show exD G F (g + 1) i k st = rdW (dec st) d v ((G.inp d)[(dec st).tk d]?) from (exS_r hf0 hc).trans (by rw [ed, ev]; rfl))
        rw [hc] at hb0
        clear hw htb hc e1 e2 e3 t0 t1 ed ev
        go_wp2_with fail
        refine (pRead K (unhide HD1 _) (unhide HI) (a := i + 1) (b := i + 2) (by omega) (by omega) (unhide HED) hd (unhide HEV) hv hi1 hi2).mono ?_
        rintro e w2 ⟨rfl, ov2, hr2⟩
        have HR2 := hide hr2
        clear hr2
        go_wp2_with fail
        go_ret
        rw [unhide HX]
        exact ⟨rfl, ov2, unhide HR2⟩
      · obtain ⟨e1, e2⟩ := wfS_inv_o hw hc
        obtain ⟨t0, t1, s1⟩ := htb.2.2.2.2.2.1 hc
        rw [t0] at p0
        rw [t1] at p1
        obtain ⟨d, ed, hd⟩ := isDB_nat e1
        have HED := hide ed
        have hi1 := isDB_lt e1
        have E2 := hide e2
        have S1 := hide s1
        have HX := hide (show exD G F (g + 1) i k st = outW (dec st) d (evE (bt G.D.s) (dec st).V f (i + 2)) from (exS_o hf0 hc).trans (by rw [evE_fuel f _ _ F e2 (by omega), ed]; rfl))
        rw [hc] at hb0
        clear hw htb hc e1 e2 t0 t1 s1 ed
        go_wp2_with fail
        refine (pPut K (unhide HD1 _) (unhide HI) (a := i + 1) (b := i + 2) (by omega) (by omega) (unhide HED) hi1 (unhide E2) (unhide S1)).mono ?_
        rintro e w2 ⟨rfl, ov2, hr2⟩
        have HR2 := hide hr2
        clear hr2
        go_wp2_with fail
        go_ret
        rw [unhide HX]
        exact ⟨rfl, ov2, unhide HR2⟩
      · obtain ⟨e1, e2⟩ := wfS_inv_c hw hc
        have t0 := htb.2.2.2.2.2.2 hc
        rw [t0] at p0
        obtain ⟨d, ed, hd⟩ := isDB_nat e1
        have HED := hide ed
        have hi1 := isDB_lt e1
        have HX := hide (show exD G F (g + 1) i k st = if 8 ≤ k then (dec st, 2) else exD G F g (G.D.S (d + 1)).toNat (k + 1) (dec st) from (exS_c hf0 hc).trans (by rw [ed]; rfl))
        rw [hc] at hb0
        clear hw htb hc e1 e2 t0 ed
        go_wp2_with fail
        refine (pCall K IH (unhide HD1 _) (unhide HI) hgd hk (a := i + 1) (by omega) (unhide HED) hd hi1).mono ?_
        rintro e w2 ⟨rfl, ov2, hr2⟩
        have HR2 := hide hr2
        clear hr2
        obtain ⟨r, HR⟩ : ∃ r, Hid ((if 8 ≤ k then (dec st, 2) else exD G F g (G.D.S (d + 1)).toNat (k + 1) (dec st)) = r) := ⟨_, rfl⟩
        rw [unhide HR] at HR2
        rw [unhide HR]
        go_wp2_with fail
        go_ret
        rw [unhide HX, unhide HR]
        exact ⟨rfl, ov2, unhide HR2⟩

theorem pStmt (K : QK G F) : ∀ g, PsOk G F g := by
  intro g
  induction g with
  | zero =>
    intro w ov st k i j f h hin hw htb hF hg hk
    have hf0 : st.fuel = 0 := by omega
    have e2 : exD G F 0 i k st = (st, 0) := exS_spent hf0
    rw [e2]
    exact pStmt0 h hf0
  | succ g ih => exact pStmt_step K (hide ih)

end Go.Proofs.Ytfcflnnleadpkaa

namespace Go.Proofs.Ytfcflnnleadpkaa
open Go.RowKit

def rnB (F : Nat → Value) (iv : Value) (fu : Nat) (ov : Value) : Array Value := rowF (rnF F iv noW noW fu 0 ov) 932
theorem rnB_size (F : Nat → Value) (iv : Value) (fu : Nat) (ov : Value) : (rnB F iv fu ov).size = 932 := rowF_size _ _
theorem info_rn : (Try.prog.info? 106).map (fun i => (i.zero, i.size)) = some (some (.agg (rnB P0 (.slice none 0 0) 0 (.slice none 0 0))), 932) := by kernel_rfl
theorem zero_rn : ∀ w, (zeroValue 106).run Try.prog w = .ok (.agg (rnB P0 (.slice none 0 0) 0 (.slice none 0 0))) w := (zero_of_info info_rn).1
theorem size_rn : (Try.prog.info? 106).map (·.size) = some 932 := (zero_of_info info_rn).2
theorem size_pg : (Try.prog.info? 87).map (·.size) = some 912 := by kernel_rfl
theorem rnB_lay (F : Nat → Value) (iv : Value) (fu : Nat) (ov : Value) : Array.foldl (fun cs (x : Value × Nat) => cs.setIfInBounds (0 + x.2) x.1) (rnB P0 iv fu ov) (rowF F 912).zipIdx 0 912 = rnB F iv fu ov := by
  refine fold_row _ _ _ 0 912 932 (by omega) (fun k hk => ?_) (fun k hk h => ?_)
  · rw [Nat.zero_add]; exact rnF_pg hk
  · unfold rnF
    repeat' split
    all_goals first | rfl | omega
theorem rnB_lay' (F : Nat → Value) (iv : Value) (fu : Nat) (ov : Value) : Array.foldl (fun cs (x : Value × Nat) => cs.setIfInBounds x.2 x.1) (rnB P0 iv fu ov) (rowF F 912).zipIdx 0 912 = rnB F iv fu ov := by
  have h := rnB_lay F iv fu ov
  simp only [Nat.zero_add] at h
  exact h
theorem rnB_in (F : Nat → Value) (iv iv' : Value) (fu : Nat) (ov : Value) : (rnB F iv fu ov).setIfInBounds 912 iv' = rnB F iv' fu ov := by
  refine rowF_set rfl (fun k hk hne => ?_)
  unfold rnF
  repeat' split
  all_goals first | rfl | omega
theorem rnB_fu (F : Nat → Value) (iv : Value) (fu fu' : Nat) (ov : Value) : (rnB F iv fu ov).setIfInBounds 929 (.int .i64 (fu' : Int)) = rnB F iv fu' ov := by
  refine rowF_set rfl (fun k hk hne => ?_)
  unfold rnF
  repeat' split
  all_goals first | rfl | omega
theorem rnB_ov (F : Nat → Value) (iv : Value) (fu : Nat) (ov ov' : Value) : (rnB F iv fu ov).setIfInBounds 931 ov' = rnB F iv fu ov' := by
  refine rowF_set rfl (fun k hk hne => ?_)
  unfold rnF
  repeat' split
  all_goals first | rfl | omega
theorem rnB_one {F : Nat → Value} {iv : Value} {fu : Nat} {ov : Value} (hF : ∀ k, (F k).oneCell' = true) (h1 : iv.oneCell' = true) (h2 : ov.oneCell' = true) : (rnB F iv fu ov).all (·.oneCell') = true := by
  refine rowF_all (fun k => ?_)
  unfold rnF
  repeat' split
  all_goals first | rfl | exact hF _ | exact h1 | exact h2
theorem ret_rn {fn : Func} {k : Tmp} (h : fn.results = #[.cell k 106]) (tmps : Array Value) (w : World) (g : Nat) (C : Array Value) (hC : C.size = 932)
    (hp : tmps.getD k undef = .pointer (some ⟨g, 0, none⟩)) (hg : w.heap[g]? = some (.cells C 106 (0, 0))) :
    (results fn tmps).run Try.prog w = .ok (.agg C) w :=
  results_cell_row h tmps w g _ _ _ _ hp hg Try.underlying106 rfl (by rw [hC]; exact size_rn)

set_option maxHeartbeats 600000 in
set_option maxRecDepth 200000 in
theorem pBegin_gen (w : World) (R Z0 A1 A2 A3 A4 : Array Value) (ia : Option Addr) (il ic fu : Nat) (hz : ∀ w, (zeroValue 106).run Try.prog w = .ok (.agg Z0) w)
    (z1 : R.size = 912) (z0 : Z0.size = 932) (z2 : A1.size = 932) (z5 : A4.size = 932) (h1 : A4.all (·.oneCell') = true)
    (hl' : Array.foldl (fun cs (x : Value × Nat) => cs.setIfInBounds x.2 x.1) Z0 R.zipIdx 0 912 = A1)
    (h2 : A1.setIfInBounds 912 (.slice ia il ic) = A2) (h3 : A2.setIfInBounds 929 (.int .i64 (fu : Int)) = A3) (h4 : A3.setIfInBounds 931 (.slice (some ⟨w.heap.size + 1 + 1, 0, none⟩) 0 0) = A4) :
    Calls Try.prog 46 #[.agg R, .slice ia il ic, .int .i64 (fu : Int)] w fun e w' => e = .returned (.agg A4) ∧ w'.heap[w.heap.size + 1 + 1]? = some (.cells #[] 111 (0, 0)) ∧ Below w.heap.size w w' := by
  have HG := hide ((heap_two w (.cells R 87) (.cells Z0 106)).1)
  have g3 := heap_three w (.cells R 87) (.cells Z0 106) (.cells #[] 111)
  have HG3 := hide g3
  have hst := store_arr size_rn _ (w.heap.size + 1) _ A4 z0 z5 h1 g3.2.1
  have HZ := hide z5
  clear g3
  go_enter Try.func46, Try.ntmps46
  go_wp2_with (refine wpList_load_row rfl 87 _ rfl w.heap.size rfl 87 _ (0, 0) _ (unhide HG) Try.underlying87 rfl (by rw [z1]; exact size_pg) ?_)
  refine bodyPost_ret (v := .agg A4) (ret_rn Try.results46 _ _ (w.heap.size + 1) _ (unhide HZ) rfl (setRow_heap _ _ _ _ _ _ (unhide HG3).2.1)) rfl ⟨rfl, ?_, ?_⟩
  · exact (setRow_other _ _ _ _ (by omega)).trans (unhide HG3).2.2
  · exact below_setRow (below_three w _ _ _) (by omega) _

theorem pBegin (w : World) (F : Nat → Value) (hF : ∀ k, (F k).oneCell' = true) (ia : Option Addr) (il ic fu : Nat) :
    Calls Try.prog 46 #[.agg (rowF F 912), .slice ia il ic, .int .i64 (fu : Int)] w fun e w' => ∃ g, e = .returned (.agg (rnB F (.slice ia il ic) fu (.slice (some ⟨g, 0, none⟩) 0 0))) ∧ w.heap.size ≤ g ∧ w'.heap[g]? = some (.cells #[] 111 (0, 0)) ∧ Below w.heap.size w w' := by
  refine (pBegin_gen w (rowF F 912) _ _ _ _ _ ia il ic fu zero_rn (rowF_size _ _) (rnB_size _ _ _ _) (rnB_size F (.slice none 0 0) 0 (.slice none 0 0)) (rnB_size F (.slice ia il ic) fu (.slice (some ⟨w.heap.size + 1 + 1, 0, none⟩) 0 0)) (rnB_one hF rfl rfl)
    (rnB_lay' F _ _ _) (rnB_in F _ _ _ _) (rnB_fu F _ _ _ _) (rnB_ov F _ _ _ _)).mono ?_
  rintro e w' ⟨rfl, hg, hb⟩
  exact ⟨_, rfl, by omega, hg, hb⟩

end Go.Proofs.Ytfcflnnleadpkaa

namespace Go.Proofs.Ytfcflnnleadpkaa
open Go.RowKit

/-- What the program's own Run must come to, its events in memory of their own. -/
def RunOwn (o s : ByteArray) (inp : Nat → List Nat) (fuel : Int) (B : Nat) (e : Ending) (w' : World) : Prop :=
  ∃ (a p : Int) (n : Nat), CkPost o s a p n ∧ ((a ≠ 0 ∧ e = .returned (.tuple #[.slice none 0 0, .int .i64 0, .int .i64 a])) ∨
    (a = 0 ∧ p = 0 ∧ ¬ (0 ≤ fuel ∧ fuel ≤ 10000) ∧ e = .returned (.tuple #[.slice none 0 0, .int .i64 0, .int .i64 7])) ∨
    (a = 0 ∧ p = 0 ∧ ∃ (f : Nat) (v : Value), fuel = (f : Int) ∧ f ≤ 10000 ∧ w'.ownsRow B 111 2 v (rnR o s n inp f).1.out.length (evC (rnR o s n inp f).1.out) ∧ e = .returned (.tuple #[v, .int .i64 ((rnR o s n inp f).2 : Int), .int .i64 0])))
def HushRunO : Prop := ∀ (w : World) (o s : ByteArray) (iv : Value) (inp : Nat → List Nat) (fuel : Int), (∀ n, n ≤ 8 → InpR w iv n inp) →
  Calls Try.prog 27 #[.string o, .string s, iv, .int .i64 fuel] w fun e w' => RunOwn o s inp fuel w.heap.size e w' ∧ Below w.heap.size w w'

theorem HushRunO.run (H : HushRunO) : HushRun := by
  intro w o s iv inp fuel hI
  refine (H w o s iv inp fuel hI).mono ?_
  rintro e w' ⟨⟨a, p, n, hc, hans⟩, hb⟩
  refine ⟨⟨a, p, n, hc, ?_⟩, hb⟩
  rcases hans with h | h | ⟨ha, hp, f, v, hf, hf2, hown, he⟩
  · exact Or.inl h
  · exact Or.inr (Or.inl h)
  · exact Or.inr (Or.inr ⟨ha, hp, f, v, hf, hf2, SlE.own (by rw [evC_twC] at hown; exact hown), he⟩)

/-- A part of a row, by its index, is loaded whole. -/
theorem load_part {P : Program} {ops : Array Oper} {rest : List Oper} {o : Oper} {a : Act} {w : World} {Q : Exit → Act → World → Prop} (hgd : o.guard = none) (ty : TypeId) (x : Operand) (ho : o.op = .load ty x) {g off n : Nat} {f : Nat → Value} {d : TypeDesc}
    (hx : a.eval x = .pointer (some ⟨g, off, none⟩)) (hc : ∀ j, j < n → w.cell? ⟨g, off + j, none⟩ = some (f j)) (hu : P.underlying ty = some d) (hd : d.isRow = true) (hi : (P.info? ty).map (·.size) = some n)
    (h : wpList P ops Q rest (a.put o.dst (.agg (rowF f n))) w) : wpList P ops Q (o :: rest) a w := by
  refine wpList_load_mid hgd ty x ho g off hx ((List.range n).map f) d (fun j v hv => ?_) hu hd (by simpa using hi) h
  by_cases hj : j < n
  · rw [hc j hj, ← hv]; simp [hj]
  · simp [hj] at hv

theorem flC_prog {D : FD} {w : World} {st : WS} (h : Fl D w st) (j : Nat) (hj : j < 912) : w.cell? ⟨D.b, 134 + j, none⟩ = some (pgF D j) := by
  rw [rowF_cell h (by omega)]
  unfold flwF
  rw [if_neg (by omega), if_neg (by omega), if_neg (by omega), if_pos (by omega), show 134 + j - 134 = j by omega]
  rfl

set_option maxHeartbeats 1000000 in
set_option maxRecDepth 100000 in
theorem pWhole {G : RD} {F : Nat} {w : World} {ov : Value} {st : RS} (K : QK G F) (h : PAt G w ov st 0) (hi : RunI G.D.n st) (hf : st.fuel ≤ 10000) :
    Calls Try.prog 47 #[.pointer (some ⟨G.b, 0, none⟩)] w (PrAt G 0 (exD G F 10000 (dE G.D).main 0 st)) := by
  have HH := hide h
  have HI := hide hi
  have p0 := h.ps (j := 0) (by omega)
  rw [K.K.m0] at p0
  simp only [Nat.add_zero] at p0
  obtain ⟨j0, hj0⟩ := K.K.Q.main
  have HJ := hide (show wfS (bt G.D.s) G.D.nv G.D.n G.D.np F (dE G.D).main = (j0, false) from hj0)
  have HT := hide K.K.tm
  obtain ⟨mn, HM⟩ : ∃ mn, Hid ((dE G.D).main = mn) := ⟨_, rfl⟩
  rw [unhide HM] at p0 HJ HT
  rw [unhide HM]
  clear h hi hj0
  go_enter Try.func47, Try.ntmps47
  go_wp2_with fail
  refine (pStmt K 10000 w ov st 0 mn j0 F (unhide HH) (unhide HI) (unhide HJ) (unhide HT) (Nat.le_refl _) hf (by omega)).mono ?_
  rintro e w2 ⟨rfl, ov2, hr2⟩
  have HR2 := hide hr2
  clear hr2
  go_wp2_with fail
  go_ret
  exact ⟨rfl, ov2, unhide HR2⟩

theorem ownsRow_empty {w : World} {B g : Nat} {e : TypeId} (hg : w.heap[g]? = some (.cells #[] e (0, 0))) (hb : B ≤ g) : w.ownsRow B e 2 (.slice (some ⟨g, 0, none⟩) 0 0) 0 [] :=
  ⟨rfl, Or.inr ⟨g, 0, #[], rfl, hb, hg, Nat.le_refl _, Nat.zero_le _, rfl, rfl⟩⟩

set_option maxHeartbeats 2000000 in
set_option maxRecDepth 200000 in
theorem hushRunO_ok : HushRunO := by
  intro w o s iv inp fuel hI
  obtain ⟨ia, il, ic, rfl, _⟩ := hI 0 (by omega)
  have HIN := hide hI
  clear hI
  have hz := zero_flw
  have z0 := flwC_size 0 0 L0 P0 noW noW noW false
  go_enter Try.func27, Try.ntmps27
  go_wp2_with fail
  refine (rf_any _ _ _).mono ?_
  rintro e w1 ⟨⟨C, rfl, a, p, n, hck, hsz, hall, h0, h1, hok⟩, hb⟩
  have HCK := hide hck
  have hst := store_arr size_flw (w1.alloc (.cells (flwC 0 0 L0 P0 noW noW noW false) 92)) w1.heap.size _ C (flwC_size _ _ _ _ _ _ _ _) hsz hall (heap_alloc_last w1 _)
  rw [World.setRow_alloc_new] at hst
  have c0 := get_of? h0
  have HOK := hide hok
  have HB := hide hb
  have HALL := hide hall
  clear hck hall hok hb h1
  by_cases ha : a = 0
  · subst ha
    obtain ⟨hp, hR, hE, v, st, hC, u1, u2, u3⟩ := unhide HOK rfl
    have HP := hide hp
    have HFL := hide (show Fl (mkD o s n w1.heap.size v) (w1.alloc (.cells C 92)) st from by rw [hC]; exact heap_alloc_last w1 _)
    have HG := hide (mkD_ok (b := w1.heap.size) (v := v) hR hE).1
    have HEnv := hide (mkD_env (o := o) (b := w1.heap.size) (v := v) (known hR hE).sz hE)
    have HN8 := hide (known hR hE).n8
    have HVO : Hid (v.oneCell' = true) := by
      have h9 : C[1045]? = some v := by rw [hC]; exact (rowF_get _ _ _ (by omega)).trans rfl
      exact hide (Array.all_eq_true_iff_forall_mem.1 (unhide HALL) v (Array.mem_of_getElem? h9))
    clear hp hR hE hC u1 u2 u3
    by_cases hf : 0 ≤ fuel ∧ fuel ≤ 10000
    · obtain ⟨hf0, hf1⟩ := hf
      obtain ⟨fu, rfl⟩ : ∃ k : Nat, fuel = (k : Int) := ⟨fuel.toNat, by omega⟩
      have e1 : decide ((fu : Int) < 0) = false := by simp
      have e2 : decide ((10000 : Int) < (fu : Int)) = false := by simp; omega
      go_wp2_with (refine load_part rfl 87 _ rfl (g := w1.heap.size) (off := 134) (f := pgF (mkD o s n w1.heap.size v)) rfl (flC_prog (unhide HFL)) Try.underlying87 rfl size_pg ?_)
      refine (pBegin _ (pgF (mkD o s n w1.heap.size v)) (prgF_one (unhide HVO)) ia il ic fu).mono ?_
      rintro e w2 ⟨g, rfl, hg, hgb, hb2⟩
      have hsz2 : w1.heap.size + 1 ≤ w2.heap.size := by have := hb2.size; simp at this; omega
      have hgl : g < w2.heap.size := (Array.getElem?_eq_some_iff.1 hgb).1
      have hwg : w.heap.size ≤ g := by have := (unhide HB).size; simp at hg; omega
      have HB2 := hide ((unhide HB).trans (((Below.refl _ _).alloc (unhide HB).size _).trans (hb2.mono (by have := (unhide HB).size; simp; omega))))
      obtain ⟨Z0, hzr, z8⟩ : ∃ Z0 : Array Value, (∀ w, (zeroValue 106).run Try.prog w = .ok (.agg Z0) w) ∧ Z0.size = 932 := ⟨_, zero_rn, rnB_size _ _ _ _⟩
      have hall := rnB_one (F := pgF (mkD o s n w1.heap.size v)) (iv := .slice ia il ic) (fu := fu) (ov := .slice (some ⟨g, 0, none⟩) 0 0) (prgF_one (unhide HVO)) rfl rfl
      have z9 := rnB_size (pgF (mkD o s n w1.heap.size v)) (.slice ia il ic) fu (.slice (some ⟨g, 0, none⟩) 0 0)
      obtain ⟨A, HAD⟩ : ∃ A, Hid (rnB (pgF (mkD o s n w1.heap.size v)) (.slice ia il ic) fu (.slice (some ⟨g, 0, none⟩) 0 0) = A) := ⟨_, rfl⟩
      rw [unhide HAD] at hall z9
      rw [unhide HAD]
      have hst2 := store_arr size_rn (w2.alloc (.cells Z0 106)) w2.heap.size _ A z8 z9 hall (heap_alloc_last w2 _)
      rw [World.setRow_alloc_new] at hst2
      have HK : Hid (QK ⟨w2.heap.size, mkD o s n w1.heap.size v, .slice ia il ic, inpN n inp, w⟩ (s.size + 1)) := hide ⟨unhide HG, by show w.heap.size ≤ w2.heap.size; omega, (unhide HIN n (unhide HN8)).congr (fun d hd => inpN_in hd), fun d hd => inpN_out hd⟩
      have HPA : Hid (PAt ⟨w2.heap.size, mkD o s n w1.heap.size v, .slice ia il ic, inpN n inp, w⟩ (w2.alloc (.cells A 106)) (.slice (some ⟨g, 0, none⟩) 0 0) ⟨fun _ => 0, fun _ => 0, [], fu⟩ 0) := by
        refine hide ⟨?_, ?_, (unhide HB2).alloc (by have := (unhide HB2).size; omega) _⟩
        · rw [← unhide HAD]; exact heap_alloc_last w2 _
        · exact ownsRow_empty ((heap_alloc_old _ _ hgl).trans hgb) hwg
      have HX : Hid (exD ⟨w2.heap.size, mkD o s n w1.heap.size v, .slice ia il ic, inpN n inp, w⟩ (s.size + 1) 10000 (dE (mkD o s n w1.heap.size v)).main 0 ⟨fun _ => 0, fun _ => 0, [], fu⟩ = rnR o s n inp fu) := by
        show ecR (dE (mkD o s n w1.heap.size v)) (inpN n inp) fu = _
        rw [unhide HEnv]; rfl
      clear hall hg hgb hb2
      go_wp2_with fail
      refine (pWhole (unhide HK) (unhide HPA) (sane0 (by omega)) (show fu ≤ 10000 by omega)).mono ?_
      rintro e w3 ⟨rfl, ov3, hr3⟩
      rw [unhide HX] at hr3
      rw [unhide HX]
      have q1 : w3.cell? ⟨w2.heap.size, 931, none⟩ = some ov3 := hr3.co
      have HR3 := hide hr3
      clear hr3
      go_wp2_with fail
      go_ret3
      exact ⟨⟨0, p, n, unhide HCK, Or.inr (Or.inr ⟨rfl, unhide HP, fu, ov3, rfl, by omega, (unhide HR3).out, rfl⟩)⟩, (unhide HR3).bel⟩
    · by_cases e1 : fuel < 0
      · have e1' : decide (fuel < 0) = true := by simpa using e1
        go_wp2_with fail
        go_ret3
        exact ⟨⟨0, p, n, unhide HCK, Or.inr (Or.inl ⟨rfl, unhide HP, hf, rfl⟩)⟩, (unhide HB).trans ((Below.refl _ _).alloc (unhide HB).size _)⟩
      · have e1' : decide (fuel < 0) = false := by simpa using e1
        have e2' : decide ((10000 : Int) < fuel) = true := by simp; omega
        go_wp2_with fail
        go_ret3
        exact ⟨⟨0, p, n, unhide HCK, Or.inr (Or.inl ⟨rfl, unhide HP, hf, rfl⟩)⟩, (unhide HB).trans ((Below.refl _ _).alloc (unhide HB).size _)⟩
  · have ha' : (a != 0) = true := by simpa using ha
    go_wp2_with fail
    go_quiet (fail)
    go_wp2_with fail
    go_ret3
    exact ⟨⟨a, p, n, unhide HCK, Or.inl ⟨ha, rfl⟩⟩, below_drewN' ((unhide HB).trans ((Below.refl _ _).alloc (unhide HB).size _)) _⟩

theorem hushRun_ok : HushRun := hushRunO_ok.run

end Go.Proofs.Ytfcflnnleadpkaa

namespace Go.Proofs.Ytfcflnnleadpkaa
open Go.RowKit

set_option maxHeartbeats 1000000 in
set_option maxRecDepth 100000 in
theorem Order_any (w : World) (s : ByteArray) :
    Calls Try.prog 14 #[.string s] w fun e w' => (∃ (a p : Int) (n : Nat), ReadPost s a p n ∧ e = .returned (.tuple #[.int .i64 a, .int .i64 p])) ∧ Below w.heap.size w w' := by
  have hz := zero_lat
  have z0 := latC_size 0 0 0 noT
  go_enter Try.func14, Try.ntmps14
  go_wp2_with fail
  refine (readLevels_any _ _).mono ?_
  rintro e w1 ⟨⟨a, p, n, hr, hn, rfl⟩, hb⟩
  have HR := hide hr
  have hr2 := ReadPost_p0 hr
  clear hr
  have hst := store_arr size_lat (w1.alloc (.cells (latC 0 0 0 noT) 76)) w1.heap.size _ (levA s a p n) (latC_size _ _ _ _) (levA_size _ _ _ _) (levA_all _ _ _ _) (heap_alloc_last w1 _)
  rw [World.setRow_alloc_new] at hst
  have z1 := levA_size s a p n
  have c0 := levA_g0 s (n := n) hr2
  have c1 := levA_g1 s (n := n) hr2
  go_wp2_with fail
  go_quiet (fail)
  go_wp2_with fail
  go_ret2
  exact ⟨⟨a, p, n, unhide HR, rfl⟩, below_drewN' (hb.trans ((Below.refl _ _).alloc hb.size _)) _⟩

set_option maxHeartbeats 1000000 in
set_option maxRecDepth 100000 in
theorem hushJoin_any (w : World) (s : ByteArray) (x y : Int) :
    Calls Try.prog 17 #[.string s, .int .i64 x, .int .i64 y] w fun e w' => (∃ (a p : Int) (n : Nat), ReadPost s a p n ∧ e = .returned (.tuple #[.int .i64 (jV s a n x y), .int .i64 (jE a n x y)])) ∧ Below w.heap.size w w' := by
  have hz := zero_lat
  have z0 := latC_size 0 0 0 noT
  go_enter Try.func17, Try.ntmps17
  go_wp2_with fail
  refine (readLevels_any _ _).mono ?_
  rintro e w1 ⟨⟨a, p, n, hr, hn, rfl⟩, hb⟩
  have HR := hide hr
  clear hr
  by_cases ha : a = 0
  · subst ha
    rw [levA_0]
    have hst := store_arr size_lat (w1.alloc (.cells (latC 0 0 0 noT) 76)) w1.heap.size _ (fullL n (cl s n)) (latC_size _ _ _ _) (fullL_size _ _) (fullL_all _ _) (heap_alloc_last w1 _)
    rw [World.setRow_alloc_new] at hst
    have z1 := fullL_size n (cl s n)
    have c0 := fullL_g0 n (cl s n)
    have HH0 := hide (heap_alloc_last w1 (.cells (fullL n (cl s n)) 76))
    have HH := hide (fullL_lat (unhide HH0))
    cases h1 : decide (0 ≤ x ∧ x < (n : Int))
    · have HV := hide (show jV s 0 n x y = 0 by simp [jV, inR, h1])
      have HE := hide (show jE 0 n x y = 7 by simp [jE, inR, h1])
      go_wp2_with fail
      refine (has_any _ _ 0 _ _ (unhide HH).cnt).mono ?_
      rintro e w' ⟨rfl, rfl⟩
      rw [h1]
      go_wp2_with fail
      go_ret2
      exact ⟨⟨0, p, n, unhide HR, by rw [unhide HV, unhide HE]; rfl⟩, hb.trans ((Below.refl _ _).alloc hb.size _)⟩
    · cases h2 : decide (0 ≤ y ∧ y < (n : Int))
      · have HV := hide (show jV s 0 n x y = 0 by simp [jV, inR, h2])
        have HE := hide (show jE 0 n x y = 7 by simp [jE, inR, h2])
        go_wp2_with fail
        refine (has_any _ _ 0 _ _ (unhide HH).cnt).mono ?_
        rintro e w' ⟨rfl, rfl⟩
        rw [h1]
        go_wp2_with fail
        refine (has_any _ _ 0 _ _ (unhide HH).cnt).mono ?_
        rintro e w' ⟨rfl, rfl⟩
        rw [h2]
        go_wp2_with fail
        go_ret2
        exact ⟨⟨0, p, n, unhide HR, by rw [unhide HV, unhide HE]; rfl⟩, hb.trans ((Below.refl _ _).alloc hb.size _)⟩
      · have hx : 0 ≤ x ∧ x < (n : Int) := by simpa using h1
        have hy : 0 ≤ y ∧ y < (n : Int) := by simpa using h2
        have HV := hide (show jV s 0 n x y = Hm.joinI (cl s n) n x.toNat y.toNat by simp [jV, inR, h1, h2])
        have HE := hide (show jE 0 n x y = 0 by simp [jE, inR, h1, h2])
        clear h1 h2
        obtain ⟨i, rfl⟩ := Int.eq_ofNat_of_zero_le hx.1
        obtain ⟨j, rfl⟩ := Int.eq_ofNat_of_zero_le hy.1
        have hi : i < n := by omega
        have hj : j < n := by omega
        have h1 : decide (0 ≤ (i : Int) ∧ (i : Int) < (n : Int)) = true := by simp; omega
        have h2 : decide (0 ≤ (j : Int) ∧ (j : Int) < (n : Int)) = true := by simp; omega
        clear hx hy
        go_wp2_with fail
        refine (has_any _ _ 0 _ _ (unhide HH).cnt).mono ?_
        rintro e w' ⟨rfl, rfl⟩
        rw [h1]
        go_wp2_with fail
        refine (has_any _ _ 0 _ _ (unhide HH).cnt).mono ?_
        rintro e w' ⟨rfl, rfl⟩
        rw [h2]
        go_wp2_with fail
        refine (join_any _ _ 0 _ _ _ _ _ hn (unhide HH) (fullL_jo (unhide HH0) hi hj hn) hi hj).mono ?_
        rintro e w' ⟨rfl, rfl⟩
        go_wp2_with fail
        go_ret2
        exact ⟨⟨0, p, n, unhide HR, by rw [unhide HV, unhide HE]; rfl⟩, hb.trans ((Below.refl _ _).alloc hb.size _)⟩
  · have HV := hide (show jV s a n x y = 0 by simp [jV, ha])
    have HE := hide (show jE a n x y = a by simp [jE, ha])
    rw [levA_e s ha]
    have hst := store_lat (w1.alloc (.cells (latC 0 0 0 noT) 76)) w1.heap.size 0 0 0 a p n noT noT (heap_alloc_last w1 _)
    rw [World.setRow_alloc_new] at hst
    have z1 := latC_size a p n noT
    have c0 := latC_g0 a p n noT
    have ha' : (a != 0) = true := by simp [ha]
    go_wp2_with fail
    go_quiet (fail)
    go_wp2_with fail
    go_ret2
    exact ⟨⟨a, p, n, unhide HR, by rw [unhide HV, unhide HE]; rfl⟩, below_drewN' (hb.trans ((Below.refl _ _).alloc hb.size _)) _⟩

end Go.Proofs.Ytfcflnnleadpkaa

namespace Go.Proofs.Ytfcflnnleadpkaa
open Go.RowKit

/-- Run of a program that is taken, with a fuel within its range. -/
theorem HushRun.ok (H : HushRun) {w : World} {o s : ByteArray} {iv : Value} {inp : Nat → List Nat} {n f : Nat} (hc : CkPost o s 0 0 n) (hf : f ≤ 10000) (hI : ∀ n, n ≤ 8 → InpR w iv n inp) :
    Calls Try.prog 27 #[.string o, .string s, iv, .int .i64 (f : Int)] w fun e w' => ∃ v, e = .returned (.tuple #[v, .int .i64 ((rnR o s n inp f).2 : Int), .int .i64 0]) ∧ SlE w' v (rnR o s n inp f).1.out.length (evL (rnR o s n inp f).1.out) ∧ Below w.heap.size w w' := by
  refine (H w o s iv inp f hI).mono ?_
  rintro e w' ⟨⟨a, p, n', hr, hans⟩, hb⟩
  obtain ⟨rfl, rfl, rfl⟩ := CkPost_uniq hc hr
  rcases hans with ⟨h0, _⟩ | ⟨_, _, h0, _⟩ | ⟨_, _, f', v, hf', _, hsl, rfl⟩
  · exact absurd rfl h0
  · exact absurd ⟨by omega, by omega⟩ h0
  · have : f' = f := by omega
    subst this
    exact ⟨v, rfl, hsl, hb⟩
theorem HushRun.bad (H : HushRun) {w : World} {o s : ByteArray} {iv : Value} {inp : Nat → List Nat} {a p : Int} {n : Nat} {fuel : Int} (hc : CkPost o s a p n) (hf : a ≠ 0 ∨ ¬ (0 ≤ fuel ∧ fuel ≤ 10000)) (hI : ∀ n, n ≤ 8 → InpR w iv n inp) :
    Calls Try.prog 27 #[.string o, .string s, iv, .int .i64 fuel] w fun e w' => ∃ x, x ≠ 0 ∧ e = .returned (.tuple #[.slice none 0 0, .int .i64 0, .int .i64 x]) ∧ Below w.heap.size w w' := by
  refine (H w o s iv inp fuel hI).mono ?_
  rintro e w' ⟨⟨a', p', n', hr, hans⟩, hb⟩
  obtain ⟨rfl, rfl, rfl⟩ := CkPost_uniq hc hr
  rcases hans with ⟨h0, rfl⟩ | ⟨_, _, _, rfl⟩ | ⟨h0, _, f', v, hf', hf2, _, _⟩
  · exact ⟨a, h0, rfl, hb⟩
  · exact ⟨7, by omega, rfl, hb⟩
  · exfalso
    rcases hf with h | h
    · exact h h0
    · exact h ⟨by omega, by omega⟩


end Go.Proofs.Ytfcflnnleadpkaa
