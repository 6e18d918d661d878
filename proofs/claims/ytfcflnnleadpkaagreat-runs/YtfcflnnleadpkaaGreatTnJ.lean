import Derived.Test.YtfcflnnleadpkaaGreatTjJ
import Derived.Test.YtfcflnnleadpkaaGreatTkJ
import Derived.Test.YtfcflnnleadpkaaGreatYaJ
import Derived.Deep.QuietTactic
import Derived.BigQuiet
import Derived.Lib.SliceRun
namespace Go.Proofs.YtfcflnnleadpkaaGreat
open Go.RowKit
variable {E : Env} {w w' w0 w1 wa : World}

/-- What Lowest leaves. -/
def LowPost (E : Env) (f : Nat) (w w' : World) : Prop := ∃ gv cv gx cx gt ct, At0 (lbE E w.heap.size gv cv gx cx gt ct) w' (lowW E f) ∧ Below w.heap.size w w' ∧ ∀ x low, w.heap.size ≤ x → Sep (wbE (lbE E w.heap.size gv cv gx cx gt ct) x low)

set_option maxHeartbeats 4000000 in
set_option maxRecDepth 100000 in
theorem Lowest_any {f : Nat} (L : Lattice E.n E.R) (hn : 1 ≤ E.n) (hn8 : E.n ≤ 8) (hnv : E.nv ≤ 8) (hnp : E.np ≤ 4) (hsz : E.s.size ≤ 300) (Q : Parts E f) (h : Pg E w) :
    Calls Tryz.prog 16 #[.pointer (some ⟨E.pb, 0, none⟩)] w fun e w' => e = .returned (.pointer (some ⟨w.heap.size, 0, none⟩)) ∧ LowPost E f w w' := by
  have k0 := h.cO
  have HH := hide h
  have HO := hide h.ord
  obtain ⟨i0, hi0, hz0, hz1, hz2⟩ := info_parts info_int
  have HI := hide (And.intro hi0 (And.intro hz0 (And.intro hz1 hz2)))
  have HL0 := hide (LI_init w)
  clear h hi0 hz0 hz1 hz2
  go_enter Tryz.func16, Tryz.ntmps16
  go_wp2_with fail
  refine (Bottom_any _ _ _ _ _ _ _ hn8 (unhide HO)).mono ?_
  rintro e w ⟨rfl, rfl⟩
  obtain ⟨b, HB⟩ : ∃ b, Hid (bot E.R E.n = b) := ⟨_, rfl⟩
  rw [unhide HB]
  go_wp2_with fail
  go_loopg [5] (E.nv) (fun g d wr => ∃ (k : Nat) (vv : Value), k + g = E.nv ∧ d = .int .i64 (k : Int) ∧ LI w wr vv (.slice none 0 0) (.slice none 0 0) (vl E k) [] [])
  case atStart => exact ⟨0, _, Nat.zero_add _, rfl, unhide HL0⟩
  case round =>
    obtain ⟨k, vv, hkg, rfl, hli⟩ := hrel
    have HL := hide hli
    have HP := hide ((unhide HH).below hn hli.bel)
    have qf := (unhide HP).cF
    clear hli k0
    by_cases hlt : k < E.nv
    · have hlt' : (k : Int) < (E.nv : Int) := by omega
      rw [sl_pos (by omega)] at qf
      have f1 := (unhide HP).fx.cell hlt
      have q0 := (unhide HL).c0
      have z0 := (unhide HL).fz 0
      have hbw := (unhide HL).lt
      have hws := (unhide HL).bel.size
      have hw1 : Hid (Value.int .i64 ((k : Int) + 1) = Value.int .i64 ((k + 1 : Nat) : Int)) := hide (congrArg (Value.int .i64) (by omega))
      obtain ⟨a, cp, rfl, hown, hlb⟩ := (unhide HL).vrow (vl_len E k)
      have HOWN := hide hown
      clear hown
      by_cases hge : 0 ≤ fixV (bt E.s) E.n k
      · have HV := hide (show fixV (bt E.s) E.n k = ((v0 E k : Nat) : Int) by unfold v0; rw [if_pos hge]; omega)
        have hge' : decide ((0 : Int) ≤ fixV (bt E.s) E.n k) = true := by simpa using hge
        rw [unhide HV] at f1 hge'
        clear hge
        have hca := fun o => (World.cell?_of_block (w := wr) (a := ⟨w.heap.size, 0, none⟩) (Below.heap_alloc wr o _ hbw)).trans q0
        have hfa := fun o => (World.frozen?_of_block (w := wr) (a := ⟨w.heap.size, 0, none⟩) (Below.heap_alloc wr o _ hbw)).trans z0
        go_wp2_with fail
        go_region_law ((refine step_append_lies _ (by rfl) _ _ _ (by rfl) (w.heap.size + 1) 3 i0 _ 1 8 Tryz.underlying50 (unhide HI).1 (unhide HI).2.1 (unhide HI).2.2.1 (unhide HI).2.2.2 rfl (by omega) (.slice a k cp) k (cells (vl E k)) (by rfl) (((unhide HOWN).alloc _).drew) ⟨wr.heap.size, 0, none⟩ 1 1 [.int .i64 ((v0 E k : Nat) : Int)] (by rfl) (by rfl) (World.news_of_block (cs := #[.int .i64 ((v0 E k : Nat) : Int)]) (t := 3) (fr := (0, 0)) (heap_alloc_new wr _)) (by simp [Value.oneCell']) (by omega) (by unfold maxLen; omega) (by omega) (by simp; omega) (wr.heap.size + 1) (by simp) ?_; intro gg cap w3 hown1 hgrow hat hlt9; have hc5 := (hgrow.cell_far ⟨w.heap.size, 0, none⟩ (by simp; omega) hlb).trans (hca _); have hf5 := (hgrow.frozen_far ⟨w.heap.size, 0, none⟩ (by simp; omega) hlb).trans (hfa _)))
        all_goals
          have HL2 := hide ((unhide HL).stepV (by simp) (below_drewN2 (alloc_below _ _) 1) hown1 hgrow hat)
          clear hown1 hgrow hat hlt9 hc5 hf5 hca hfa
          go_wp2_with fail
          go_roundg (gk - 1)
          case measure => omega
          case rel => exact ⟨k + 1, _, by omega, unhide hw1, unhide HL2⟩
      · have HV := hide (show b = v0 E k by unfold v0; rw [if_neg hge]; exact (unhide HB).symm)
        have hge' : decide ((0 : Int) ≤ fixV (bt E.s) E.n k) = false := by simpa using hge
        clear hge
        go_wp2_with (at_builtin; refine wpList_append_lies _ rfl _ _ 50 rfl (w.heap.size + 1) 3 i0 (.int .i64 0) 1 8 Tryz.underlying50 (unhide HI).1 (unhide HI).2.1 (unhide HI).2.2.1 (unhide HI).2.2.2 rfl (by decide) _ _ _ rfl ((unhide HOWN).alloc _) ⟨wr.heap.size, 0, none⟩ 1 1 [.int .i64 (b : Int)] rfl rfl (World.news_of_block (cs := #[.int .i64 (b : Int)]) (t := 3) (fr := (0, 0)) (heap_alloc_new wr _)) (by simp [Value.oneCell']) (by omega) (by unfold maxLen; omega) (by omega) (by simp; omega) (wr.heap.size + 1) (by simp) ?_)
        intro gg cap w1 hown1 hgrow hat hlt2
        have HL2 := hide ((unhide HL).stepV (by simp) (alloc_below _ _) (by rw [← unhide HV]; exact hown1) hgrow hat)
        have ⟨c1, z1⟩ := far hgrow hbw (by simp) (alloc_below _ _) hlb 0
        rw [q0] at c1
        rw [z0] at z1
        clear hown1 hgrow hat hlt2
        go_wp2_with fail
        go_roundg (gk - 1)
        case measure => omega
        case rel => exact ⟨k + 1, _, by omega, unhide hw1, unhide HL2⟩
    · have hke : k = E.nv := by omega
      subst hke
      obtain ⟨fa, fc, hfs⟩ := sl_form E.nv E.gf E.cf
      rw [hfs] at qf
      have hlt' : decide ((E.nv : Int) < (E.nv : Int)) = false := by simp
      clear hlt
      go_wp2_with fail
      clear qf HP
      go_loopg [6] (E.np) (fun g d wr => ∃ (k : Nat) (xv tv : Value), k + g = E.np ∧ d = .int .i64 (k : Int) ∧ LI w wr vv xv tv (vl E E.nv) (bl b k) (bl b k))
      case atStart => exact ⟨0, _, _, Nat.zero_add _, rfl, unhide HL⟩
      case round =>
        obtain ⟨k, xv, tv, hkg2, rfl, hli⟩ := hrel
        have HM := hide hli
        have HP := hide ((unhide HH).below hn hli.bel)
        obtain ⟨pa, pc, hps⟩ := sl_form E.np E.gp E.cp
        have qp := (unhide HP).cPr
        rw [hps] at qp
        clear hli
        by_cases hlt : k < E.np
        · have hlt' : (k : Int) < (E.np : Int) := by omega
          have hbw := (unhide HM).lt
          have hws := (unhide HM).bel.size
          have hw1 : Hid (Value.int .i64 ((k : Int) + 1) = Value.int .i64 ((k + 1 : Nat) : Int)) := hide (congrArg (Value.int .i64) (by omega))
          obtain ⟨xa, xc, rfl, hxo, hxb⟩ := (unhide HM).xrow (bl_len b k)
          have HX := hide hxo
          have q1 := (unhide HM).c1
          have z1 := (unhide HM).fz 1
          clear hxo
          go_wp2_with (at_builtin; refine wpList_append_lies _ rfl _ _ 50 rfl (w.heap.size + 1) 3 i0 (.int .i64 0) 1 8 Tryz.underlying50 (unhide HI).1 (unhide HI).2.1 (unhide HI).2.2.1 (unhide HI).2.2.2 rfl (by decide) _ _ _ rfl ((unhide HX).alloc _) ⟨wr.heap.size, 0, none⟩ 1 1 [.int .i64 (b : Int)] rfl rfl (World.news_of_block (cs := #[.int .i64 (b : Int)]) (t := 3) (fr := (0, 0)) (heap_alloc_new wr _)) (by simp [Value.oneCell']) (by omega) (by unfold maxLen; omega) (by omega) (by simp; omega) (wr.heap.size + 1) (by simp) ?_)
          intro gg cap w1 hown1 hgrow hat hlt2
          have HL2 := hide ((unhide HM).stepX (by simp) (alloc_below _ _) hown1 hgrow hat)
          have ⟨c1, y1⟩ := far hgrow hbw (by simp) (alloc_below _ _) hxb 1
          rw [q1] at c1
          rw [z1] at y1
          clear hown1 hgrow hat hlt2 q1 z1 qp HP
          obtain ⟨W, HW⟩ : ∃ W, Hid (w1.setCell ⟨w.heap.size, 1, none⟩ (.slice (some ⟨gg, 0, none⟩) (k + 1) cap) = W) := ⟨_, rfl⟩
          rw [unhide HW] at HL2
          obtain ⟨ta, tc, rfl, hto, htb⟩ := (unhide HL2).trow (bl_len b k)
          have HT := hide hto
          have q2 := (unhide HL2).c2
          have z2 := (unhide HL2).fz 2
          have hbw2 := (unhide HL2).lt
          have hws2 := (unhide HL2).bel.size
          clear hto
          go_wp2_with (first | rw [unhide HW] | (at_builtin; refine wpList_append_lies _ rfl _ _ 50 rfl (w.heap.size + 1) 3 i0 (.int .i64 0) 1 8 Tryz.underlying50 (unhide HI).1 (unhide HI).2.1 (unhide HI).2.2.1 (unhide HI).2.2.2 rfl (by decide) _ _ _ rfl ((unhide HT).alloc _) ⟨W.heap.size, 0, none⟩ 1 1 [.int .i64 (b : Int)] rfl rfl (World.news_of_block (cs := #[.int .i64 (b : Int)]) (t := 3) (fr := (0, 0)) (heap_alloc_new W _)) (by simp [Value.oneCell']) (by omega) (by unfold maxLen; omega) (by omega) (by simp; omega) (W.heap.size + 1) (by simp) ?_))
          intro gg2 cap2 w2 hown2 hgrow2 hat2 hlt3
          have HL3 := hide ((unhide HL2).stepT (by simp) (alloc_below _ _) hown2 hgrow2 hat2)
          have ⟨c2, y2⟩ := far hgrow2 hbw2 (by simp) (alloc_below _ _) htb 2
          rw [q2] at c2
          rw [z2] at y2
          clear hown2 hgrow2 hat2 hlt3 q2 z2
          go_wp2_with fail
          go_roundg (gk - 1)
          case measure => omega
          case rel => exact ⟨k + 1, _, _, by omega, unhide hw1, unhide HL3⟩
        · have hke : k = E.np := by omega
          subst hke
          have hlt' : decide ((E.np : Int) < (E.np : Int)) = false := by simp
          clear hlt
          obtain ⟨gv, cv, gx, cx, gt, ct, ha0, hsep⟩ := (unhide HM).at0 (unhide HB) hn (unhide HH)
          have HA0 := hide ha0
          have HSEP := hide hsep
          have HBW := hide (unhide HM).bel
          have HLT := hide (unhide HM).lt
          clear ha0 hsep
          go_wp2_with fail
          clear qp HP HM HL HL0 hlt' hps hfs
          go_loopg [7, 8] 129 (fun g mv rd wr => ∃ (k : Nat) (bb : Bool) (sv : WS), k + g = 129 ∧ mv = .bool bb ∧ rd = .int .i64 (k : Int) ∧ At0 (lbE E w.heap.size gv cv gx cx gt ct) wr sv ∧ InR E.n E.nv E.np sv ∧ Below w.heap.size w wr ∧ w.heap.size < wr.heap.size ∧ lowR E f g bb sv = lowW E f)
          case atStart => exact ⟨0, true, st0 E, rfl, rfl, rfl, unhide HA0, st0_in hn, unhide HBW, unhide HLT, rfl⟩
          case round =>
            obtain ⟨k, bb, sv, hkg3, rfl, rfl, hat, hin, hbw, hlt3, hlow⟩ := hrel
            have HA := hide hat
            have HIN := hide hin
            have HBE := hide hbw
            have HLO := hide hlow
            clear hat hin hbw hlow
            cases gk with
            | zero =>
              have hk : k = 129 := by omega
              subst hk
              have HE := hide (show sv = lowW E f from unhide HLO)
              go_wp2_with fail
              go_ret
              exact ⟨rfl, gv, cv, gx, cx, gt, ct, by rw [← unhide HE]; exact unhide HA, unhide HBE, unhide HSEP⟩
            | succ g =>
              have hk : decide ((k : Int) ≤ 128) = true := by simp; omega
              cases bb
              · have HE := hide (show sv = lowW E f from unhide HLO)
                go_wp2_with fail
                go_ret
                exact ⟨rfl, gv, cv, gx, cx, gt, ct, by rw [← unhide HE]; exact unhide HA, unhide HBE, unhide HSEP⟩
              · have HE := hide (show lowR E f g (stepW E f sv).ra (stepW E f sv) = lowW E f from unhide HLO)
                have hw1 : Hid (Value.int .i64 ((k : Int) + 1) = Value.int .i64 ((k + 1 : Nat) : Int)) := hide (congrArg (Value.int .i64) (by omega))
                have HK : Hid (EnvOk (wbE (lbE E w.heap.size gv cv gx cx gt ct) wr.heap.size true)) := hide ⟨unhide HSEP _ _ (by omega), L, hn, hn8, hsz, hnv, hnp⟩
                have HQ : Hid (Parts (wbE (lbE E w.heap.size gv cv gx cx gt ct) wr.heap.size true) f) := hide ⟨Q.main, Q.proc⟩
                have HAW := hide ((unhide HA).walk hn true)
                have HS := hide (show (allW (wbE (lbE E w.heap.size gv cv gx cx gt ct) wr.heap.size true) f (rsW sv)).2 = stepW E f sv by rw [allW_lb]; rfl)
                have HI2 := hide (allTo_ok (st := rsW sv) (unhide HK) (unhide HQ) ⟨(unhide HIN).V, (unhide HIN).X, (unhide HIN).T⟩ E.np (Nat.le_refl _))
                go_wp2_with fail
                refine (All_any (unhide HK) (unhide HQ) _ (rsW sv) (unhide HAW) ⟨(unhide HIN).V, (unhide HIN).X, (unhide HIN).T⟩).mono ?_
                rintro e w3 ⟨rfl, hat3, hfr3⟩
                rw [unhide HS] at hat3
                have HB3 := hide ((unhide HBE).trans (hfr3.below (unhide HK).S (Nat.le_of_lt hlt3)))
                have HA3 := hide hat3.at0_lb
                have r3 : w3.cell? ⟨wr.heap.size, 3, none⟩ = some (.bool (stepW E f sv).ra) := hat3.cRa
                have hlt4 : w.heap.size < w3.heap.size := by have := hfr3.size; simp at this; omega
                have HI3 : Hid (InR E.n E.nv E.np (stepW E f sv)) := hide (by rw [← unhide HS]; exact unhide HI2)
                clear hat3 hfr3
                go_wp2_with fail
                go_roundg g
                case measure => omega
                case rel => exact ⟨k + 1, (stepW E f sv).ra, stepW E f sv, by omega, rfl, unhide hw1, unhide HA3, unhide HI3, unhide HB3, hlt4, unhide HE⟩

end Go.Proofs.YtfcflnnleadpkaaGreat

namespace Go.Proofs.YtfcflnnleadpkaaGreat
open Go.RowKit

set_option maxHeartbeats 4000000 in
set_option maxRecDepth 100000 in
theorem Check_any (w : World) (o s : ByteArray) :
    Calls Tryz.prog 5 #[.string o, .string s] w fun e w' => CheckAns o s w.heap.size e w' ∧ Below w.heap.size w w' := by
  go_enter Tryz.func5, Tryz.ntmps5
  go_wp2_with fail
  refine (Read_any _ _).mono ?_
  rintro e w1 ⟨⟨a, p, n, hr, hans⟩, hb⟩
  have HR := hide hr
  have HB := hide hb
  clear hr hb
  rcases hans with ⟨ha, rfl⟩ | ⟨rfl, rfl, h1, h8, ob, g, cap, rb, hob, hord, rfl⟩
  · have ha' : decide (a = 0) = false := by simpa using ha
    go_wp2_with fail
    refine bodyPost_ret (results_tmp4 rfl _ _ _) rfl ⟨?_, unhide HB⟩
    exact ⟨a, p, n, Or.inl ⟨unhide HR, ha⟩, Or.inl ⟨ha, rfl⟩⟩
  · have HORD := hide hord
    have cn := hord.cn
    clear hord
    go_wp2_with fail
    refine (Parse_any _ _ _ _ cn).mono ?_
    rintro e w2 ⟨hp, hb2⟩
    have HB2 := hide hb2
    clear hb2
    rcases hp with ⟨he, rfl⟩ | ⟨he, hsz, rfl, v, pv, fl, hpi⟩
    · obtain ⟨x, HX⟩ : ∃ x, Hid (prE s n = x) := ⟨_, rfl⟩
      obtain ⟨y, HY⟩ : ∃ y, Hid (prP s n = y) := ⟨_, rfl⟩
      rw [unhide HX] at he
      rw [unhide HX, unhide HY]
      have he' : decide (x = 0) = false := by simpa using he
      go_wp2_with fail
      refine bodyPost_ret (results_tmp4 rfl _ _ _) rfl ⟨?_, (unhide HB).trans ((unhide HB2).mono (unhide HB).size)⟩
      exact ⟨x, y, n, Or.inr (Or.inl ⟨unhide HR, by rw [unhide HX]; exact he, (unhide HX).symm, (unhide HY).symm⟩), Or.inl ⟨he, rfl⟩⟩
    · have HK := hide (known (unhide HR) he)
      have HE := hide he
      obtain ⟨E, hpg, hsame, hpb⟩ := PI_pg hpi ((unhide HORD).below h1 (unhide HB2))
      have HPG := hide hpg
      have HS := hide hsame
      have HPB := hide hpb
      clear hsame hpb
      clear hpg hpi he
      have HQ := hide (Parts.same (unhide HS) (unhide HK).Q)
      have HL : Hid (Lattice E.n E.R) := by rw [(unhide HS).n, (unhide HS).R]; exact (unhide HK).A.L
      have hn1 : 1 ≤ E.n := by rw [(unhide HS).n]; exact h1
      have hn8 : E.n ≤ 8 := by rw [(unhide HS).n]; exact h8
      have hnv : E.nv ≤ 8 := by rw [(unhide HS).nv]; exact (unhide HK).nv
      have hnp : E.np ≤ 4 := by rw [(unhide HS).np]; exact (unhide HK).np
      have hes : E.s.size ≤ 300 := by rw [(unhide HS).s]; exact hsz
      rw [← unhide HPB]
      go_wp2_with fail
      refine (Lowest_any (E := E) (f := s.size + 1) (unhide HL) hn1 hn8 hnv hnp hes (unhide HQ) (unhide HPG)).mono ?_
      rintro e w3 ⟨rfl, gv, cv, gx, cx, gt, ct, ha0, hb3, hsep⟩
      have HA0 := hide ha0
      have HB3 := hide hb3
      have HSEP := hide hsep
      clear ha0 hb3 hsep
      have HK3 : Hid (EnvOk (wbE (lbE E w2.heap.size gv cv gx cx gt ct) w3.heap.size false)) := hide ⟨unhide HSEP _ _ (unhide HB3).size, unhide HL, hn1, hn8, hes, hnv, hnp⟩
      have HQ3 : Hid (Parts (wbE (lbE E w2.heap.size gv cv gx cx gt ct) w3.heap.size false) (s.size + 1)) := hide ⟨(unhide HQ).main, (unhide HQ).proc⟩
      have HAW := hide ((unhide HA0).walk hn1 false)
      go_wp2_with fail
      have HIN : Hid (InR E.n E.nv E.np (rsW (lowW E (s.size + 1)))) := by
        have hl := lowW_ok (E := E) (f := s.size + 1) (by rw [(unhide HS).n, (unhide HS).R]; exact (unhide HK).A) (unhide HQ) hn8 hnv hnp
        exact ⟨hl.iv, hl.ix, hl.it⟩
      refine (All_any (unhide HK3) (unhide HQ3) _ (rsW (lowW E (s.size + 1))) (unhide HAW) (unhide HIN)).mono ?_
      rintro e w4 ⟨rfl, hat, hfr⟩
      have HAW2 : Hid (allW (wbE (lbE E w2.heap.size gv cv gx cx gt ct) w3.heap.size false) (s.size + 1) (rsW (lowW E (s.size + 1))) = (okT E (s.size + 1) (ckL o s n).V (ckL o s n).X (ckL o s n).T E.np, putB (rsW (ckL o s n)) (ckB o s n))) := by
        rw [allW_lb]
        unfold allW
        rw [allTo_flat rfl, lowW_same (unhide HS)]
        have h1 := okT_same (E := { E with low := false }) (E' := E) ⟨rfl, rfl, rfl, rfl, rfl, rfl, rfl⟩ (s.size + 1) (ckL o s n).V (ckL o s n).X (ckL o s n).T E.np
        have h2 := allD_same (E := { E with low := false }) (E' := pE (cl o n) s n) ⟨(unhide HS).s, (unhide HS).R, (unhide HS).n, (unhide HS).nv, (unhide HS).np, (unhide HS).main, (unhide HS).P⟩ (s.size + 1) (ckL o s n).V (ckL o s n).X (ckL o s n).T E.np
        show (okT { E with low := false } (s.size + 1) (ckL o s n).V (ckL o s n).X (ckL o s n).T E.np, putB (rsW (ckL o s n)) (bdF E.R (ckL o s n).V (ckL o s n).X (allD { E with low := false } (s.size + 1) (ckL o s n).V (ckL o s n).X (ckL o s n).T E.np) (-1))) = _
        rw [h1, h2, (unhide HS).R]
        have h3 : E.np = (prPs s n).length := (unhide HS).np
        unfold ckB ckD
        rw [h3]
        rfl
      rw [unhide HAW2] at hat
      have HA4 := hide hat.at0_lb
      have c5 : w4.cell? ⟨w3.heap.size, 5, none⟩ = some (.int .i64 (ckB o s n)) := hat.cBad
      have HB4 : Hid (Below w.heap.size w w4) := by
        have b1 := (unhide HB)
        have b2 := (unhide HB2)
        have b3 := (unhide HB3)
        have b4 := hfr.below (unhide HK3).S (unhide HB3).size
        have b4' : Below w2.heap.size w3 w4 := b4
        have z1 := b1.size
        have z2 := b2.size
        exact b1.trans ((b2.mono z1).trans ((b3.mono (by omega)).trans (b4'.mono (by omega))))
      clear hat hfr
      obtain ⟨x, HX⟩ : ∃ x, Hid (ckB o s n = x) := ⟨_, rfl⟩
      rw [unhide HX] at c5
      by_cases hx : 0 ≤ x
      · have hx' : decide ((0 : Int) ≤ x) = true := by simpa using hx
        go_wp2_with fail
        go_quiet (fail)
        go_wp2_with fail
        refine bodyPost_ret (results_tmp4 rfl _ _ _) rfl ⟨?_, below_drewN2 (unhide HB4) _⟩
        exact ⟨6, x, n, Or.inr (Or.inr (Or.inl ⟨unhide HR, unhide HE, by rw [unhide HX]; exact hx, rfl, (unhide HX).symm⟩)), Or.inl ⟨by omega, rfl⟩⟩
      · have hx' : decide ((0 : Int) ≤ x) = false := by simpa using hx
        go_wp2_with fail
        refine bodyPost_ret (results_tmp4 rfl _ _ _) rfl ⟨?_, unhide HB4⟩
        refine ⟨0, 0, n, Or.inr (Or.inr (Or.inr ⟨unhide HR, unhide HE, by rw [unhide HX]; omega, rfl, rfl⟩)), Or.inr ⟨rfl, rfl, lbE E w2.heap.size gv cv gx cx gt ct, ⟨(unhide HS).s, (unhide HS).R, (unhide HS).n, (unhide HS).nv, (unhide HS).np, (unhide HS).main, (unhide HS).P⟩, ?_, ?_, ?_, rfl⟩⟩
        · exact ⟨(unhide HA4).pg, (unhide HA4).lb, (unhide HA4).rv, (unhide HA4).rx, (unhide HA4).rt⟩
        · show w.heap.size ≤ E.pb
          rw [unhide HPB]
          have := (unhide HB).size
          omega
        · show w.heap.size ≤ w2.heap.size
          have := (unhide HB).size
          have := (unhide HB2).size
          omega

end Go.Proofs.YtfcflnnleadpkaaGreat

namespace Go.Proofs.YtfcflnnleadpkaaGreat
open Go.RowKit


set_option maxHeartbeats 400000 in
theorem num_any (w : World) (x : Int) : Calls Tryz.prog 6 #[.int .i64 x] w fun e w' => e = .returned (.int .i64 x) ∧ w' = w := by
  go_enter Tryz.func6, Tryz.ntmps6
  go_wp2_with fail
  go_ret
  exact ⟨rfl, rfl⟩


end Go.Proofs.YtfcflnnleadpkaaGreat
