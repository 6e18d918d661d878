import Derived.Test.YtfcflnnleadpkaaGreatXnJ
import Derived.Laws.OwnMore
import Derived.Deep.OwnRows
import Derived.Test.YtfcflnnleadpkaaGreatVaJ
import Derived.Test.YtfcflnnleadpkaaGreatYaJ
import Derived.Deep.Matrix
import Derived.Test.YtfcflnnleadpkaaGreatMaJ
import Derived.Laws.Tables
import Derived.Laws.Rows
import Derived.Laws.CopyRow
import Derived.Deep.WholeRow
namespace Go.Proofs.YtfcflnnleadpkaaGreat
open Go.RowKit

/-- A row of noughts. -/
theorem Rw_made {w : World} {g m : Nat} (h : w.heap[g]? = some (.cells (madeCells #[.int .i64 0] m) 3 (0, 0))) : Rw w g m (lv (fun _ => 0)) := by
  intro _
  refine ⟨_, h, fun k hk => ?_⟩
  have h1 : (madeCells #[Value.int .i64 0] m).toList = List.replicate m (Value.int .i64 0) := toList_madeCells_one _ _
  have h2 : (madeCells #[Value.int .i64 0] m).toList[k]? = some (Value.int .i64 0) := by rw [h1]; simp [hk]
  simpa [lv] using h2
/-- A Run as it begins. -/
theorem RAt_init {E : Env} {w0 w : World} {iv : Value} {inp : Nat → List Nat} {rb gk gv fuel : Nat} (hr : w.heap[rb]? = some (.cells #[.pointer (some ⟨E.pb, 0, none⟩), iv, .slice (some ⟨gk, 0, none⟩) E.n E.n, .slice (some ⟨gv, 0, none⟩) E.nv E.nv, .slice none 0 0, .int .i64 (fuel : Int), .int .i64 0] 81 (0, 0)))
    (hk : w.heap[gk]? = some (.cells (madeCells #[.int .i64 0] E.n) 3 (0, 0))) (hv : w.heap[gv]? = some (.cells (madeCells #[.int .i64 0] E.nv) 3 (0, 0))) (hb : Below w0.heap.size w0 w) :
    ∃ cv, RAt ⟨E, rb, gk, E.n, gv, cv, iv, inp, w0⟩ w (.slice none 0 0) ⟨fun _ => 0, fun _ => 0, [], fuel⟩ 0 := by
  have e : ∃ cv, (Value.slice (some ⟨gv, 0, none⟩) E.nv E.nv) = sl E.nv gv cv := by
    rcases Nat.eq_zero_or_pos E.nv with hz | hz
    · exact ⟨1, by rw [hz]; rfl⟩
    · exact ⟨E.nv, (sl_pos hz).symm⟩
  obtain ⟨cv, e⟩ := e
  refine ⟨cv, ⟨?_, Rw_made hk, Rw_made hv, World.ownsRow_nil _ _ _ _, hb⟩⟩
  rw [e] at hr
  exact hr

theorem three_alloc (w : World) (o1 o2 o3 : Obj) : ((((w.alloc o1).alloc o2).alloc o3).drew).heap[w.heap.size]? = some o1 ∧ ((((w.alloc o1).alloc o2).alloc o3).drew).heap[w.heap.size + 1]? = some o2 ∧ ((((w.alloc o1).alloc o2).alloc o3).drew).heap[w.heap.size + 1 + 1]? = some o3 ∧ Below w.heap.size w (((w.alloc o1).alloc o2).alloc o3).drew := by
  have s1 : (w.alloc o1).heap.size = w.heap.size + 1 := by simp
  have s2 : ((w.alloc o1).alloc o2).heap.size = w.heap.size + 1 + 1 := by simp
  refine ⟨?_, ?_, ?_, below_drewN2 (((alloc_below w o1).trans ((alloc_below (w.alloc o1) o2).mono (by omega))).trans ((alloc_below ((w.alloc o1).alloc o2) o3).mono (by omega))) 1⟩
  · show (((w.alloc o1).alloc o2).alloc o3).heap[w.heap.size]? = _
    rw [Below.heap_alloc _ _ _ (by omega), Below.heap_alloc _ _ _ (by omega)]
    exact heap_alloc_new w o1
  · show (((w.alloc o1).alloc o2).alloc o3).heap[w.heap.size + 1]? = _
    rw [Below.heap_alloc _ _ _ (by omega)]
    have := heap_alloc_new (w.alloc o1) o2
    rw [s1] at this
    exact this
  · show (((w.alloc o1).alloc o2).alloc o3).heap[w.heap.size + 1 + 1]? = _
    have := heap_alloc_new ((w.alloc o1).alloc o2) o3
    rw [s2] at this
    exact this
set_option maxHeartbeats 800000 in
set_option maxRecDepth 10000 in
theorem Exec_any {E : Env} {w : World} {iv : Value} {inp : Nat → List Nat} {fuel : Nat} (hn1 : 1 ≤ E.n) (hn8 : E.n ≤ 8) (hsz : E.s.size ≤ 300) (hnv : E.nv ≤ 8) (hnp : E.np ≤ 4) (P : Pg E w) (I : InpR w iv E.n inp) (Q : Parts E (E.s.size + 1)) (ib : ∀ d, E.n ≤ d → inp d = []) (hf : fuel ≤ 10000)
    (SO : ∀ G : REnv, G.E = E → RK G (E.s.size + 1) → SOk G) :
    Calls Tryz.prog 8 #[.pointer (some ⟨E.pb, 0, none⟩), iv, .int .i64 (fuel : Int)] w fun e w' => ∃ ov, e = .returned (.tuple #[ov, .int .i64 ((ecR E inp fuel).2 : Int)]) ∧ w'.ownsRow w.heap.size 84 2 ov (ecR E inp fuel).1.out.length (evC (ecR E inp fuel).1.out) ∧ Below w.heap.size w w' := by
  obtain ⟨ia, il, ic, hiv, _⟩ := id I
  subst hiv
  have HP := hide P
  have HI := hide I
  have kO := P.cO
  have kN := P.ord.cn
  have kF := P.cF
  have kM := P.cM
  obtain ⟨fa, fc, hfs⟩ := sl_form E.nv E.gf E.cf
  rw [hfs] at kF
  have HSO := hide SO
  obtain ⟨jm, hjm⟩ := Q.main
  have HJM := hide hjm
  clear hjm
  have n1 := World.new_ne w _ kO
  have n2 := World.new_ne w _ kN
  have n3 := World.new_ne w _ kF
  have hpbl := P.pbl
  have hobl := P.obl
  have HKP := hide (show ∀ (o1 o2 o3 : Obj) (b j : Nat), b < w.heap.size → ((((w.alloc o1).alloc o2).alloc o3).drew).cell? ⟨b, j, none⟩ = w.cell? ⟨b, j, none⟩ by
    intro o1 o2 o3 b j hb
    refine World.cell?_of_block (w := w) ?_
    show (((w.alloc o1).alloc o2).alloc o3).heap[b]? = _
    rw [Below.heap_alloc _ _ b (by simp; omega), Below.heap_alloc _ _ b (by simp; omega), Below.heap_alloc _ _ b hb])
  have hmk := run_make_row' (P := Tryz.prog) 50 3 (.int .i64 0) 8 Tryz.underlying50 info_int rfl .i64 .i64 E.n (by omega) (by omega)
  have hmv := run_make_row' (P := Tryz.prog) 50 3 (.int .i64 0) 8 Tryz.underlying50 info_int rfl .i64 .i64 E.nv (by omega) (by omega)
  clear P I SO hfs
  go_enter Tryz.func8, Tryz.ntmps8
  go_wp2_with fail
  go_region_held3 (fun w' => w'.cell? ⟨E.pb, 0, none⟩ = some (.pointer (some ⟨E.ob, 0, none⟩)) ∧ w'.cell? ⟨E.ob, 0, none⟩ = some (.int .i64 (E.n : Int)) ∧ w'.cell? ⟨E.pb, 4, none⟩ = some (.slice fa E.nv fc))
    (first
      | (go_keep; done)
      | exact ⟨(unhide HKP _ _ _ _ _ hpbl).trans kO, (unhide HKP _ _ _ _ _ hobl).trans kN, (unhide HKP _ _ _ _ _ hpbl).trans kF⟩)
    (first
      | fail)
  · have tw := three_alloc w (.cells (madeCells #[.int .i64 0] E.n) 3) (.cells (madeCells #[.int .i64 0] E.nv) 3) (.cells #[.pointer (some ⟨E.pb, 0, none⟩), .slice ia il ic, .slice (some ⟨w.heap.size, 0, none⟩) E.n E.n, .slice (some ⟨w.heap.size + 1, 0, none⟩) E.nv E.nv, .slice none 0 0, .int .i64 (fuel : Int), .int .i64 0] 81)
    obtain ⟨cv, hat⟩ := RAt_init (E := E) (w0 := w) (iv := .slice ia il ic) (inp := inp) tw.2.2.1 tw.1 tw.2.1 tw.2.2.2
    obtain ⟨G, hG⟩ : ∃ G, G = REnv.mk E (w.heap.size + 1 + 1) (w.heap.size) E.n (w.heap.size + 1) cv (.slice ia il ic) inp w := ⟨_, rfl⟩
    rw [← hG] at hat
    have HGE := hide (show G.E = E by rw [hG])
    have HGR := hide (show G.rb = w.heap.size + 1 + 1 by rw [hG])
    have HGW := hide (show G.w0 = w by rw [hG])
    have HK : Hid (RK G (E.s.size + 1)) := by
      rw [hG]
      exact hide ⟨hn1, hn8, hsz, hnv, hnp, unhide HP, ⟨by show w.heap.size ≤ w.heap.size + 1 + 1; omega, by show w.heap.size ≤ w.heap.size; omega, fun _ => ⟨by show w.heap.size ≤ w.heap.size + 1; omega, by show w.heap.size + 1 ≠ w.heap.size; omega⟩⟩, unhide HI, Q, ib⟩
    have HRO := hide (rstmt_ok (unhide HK) (hide (unhide HSO G (unhide HGE) (unhide HK))) 10000)
    have HX : Hid (exR G (E.s.size + 1) 10000 E.main 0 ⟨fun _ => 0, fun _ => 0, [], fuel⟩ = ecR E inp fuel) := by rw [hG]; exact hide rfl
    have HAT := hide hat
    have kM2 := ((unhide HP).below hn1 tw.2.2.2).cM
    have HWF := hide (show wf0 G.E (E.s.size + 1) E.main = (jm, false) by rw [unhide HGE]; exact unhide HJM)
    have HSN := hide (show RunI G.E.n ⟨fun _ => 0, fun _ => 0, [], fuel⟩ from sane0 hf)
    generalize hWW : (World.drew (World.alloc (World.alloc (World.alloc w _) _) _)) = W at *
    clear hat tw hWW hG
    rw [← unhide HGR]
    go_wp2_with fail
    refine (unhide HRO W _ _ 0 E.main jm (E.s.size + 1) (unhide HAT) (unhide HSN) (unhide HWF) (Nat.le_refl _) hf (by omega)).mono ?_
    rintro e w2 ⟨rfl, ov2, hr2⟩
    rw [unhide HX] at hr2
    rw [unhide HX]
    have y4 := hr2.c4
    have HOW := hide (show w2.ownsRow w.heap.size 84 2 ov2 (ecR E inp fuel).1.out.length (evC (ecR E inp fuel).1.out) by have := hr2.out; rw [unhide HGW] at this; exact this)
    have HBL := hide (show Below w.heap.size w w2 by have := hr2.bel; rw [unhide HGW] at this; exact this)
    clear hr2
    go_wp2_with fail
    go_ret2
    exact ⟨ov2, rfl, unhide HOW, unhide HBL⟩
  · have tw := three_alloc w (.cells (madeCells #[.int .i64 0] E.nv) 3) (.cells (madeCells #[.int .i64 0] E.n) 3) (.cells #[.pointer (some ⟨E.pb, 0, none⟩), .slice ia il ic, .slice (some ⟨w.heap.size + 1, 0, none⟩) E.n E.n, .slice (some ⟨w.heap.size, 0, none⟩) E.nv E.nv, .slice none 0 0, .int .i64 (fuel : Int), .int .i64 0] 81)
    obtain ⟨cv, hat⟩ := RAt_init (E := E) (w0 := w) (iv := .slice ia il ic) (inp := inp) tw.2.2.1 tw.2.1 tw.1 tw.2.2.2
    obtain ⟨G, hG⟩ : ∃ G, G = REnv.mk E (w.heap.size + 1 + 1) (w.heap.size + 1) E.n (w.heap.size) cv (.slice ia il ic) inp w := ⟨_, rfl⟩
    rw [← hG] at hat
    have HGE := hide (show G.E = E by rw [hG])
    have HGR := hide (show G.rb = w.heap.size + 1 + 1 by rw [hG])
    have HGW := hide (show G.w0 = w by rw [hG])
    have HK : Hid (RK G (E.s.size + 1)) := by
      rw [hG]
      exact hide ⟨hn1, hn8, hsz, hnv, hnp, unhide HP, ⟨by show w.heap.size ≤ w.heap.size + 1 + 1; omega, by show w.heap.size ≤ w.heap.size + 1; omega, fun _ => ⟨by show w.heap.size ≤ w.heap.size; omega, by show w.heap.size ≠ w.heap.size + 1; omega⟩⟩, unhide HI, Q, ib⟩
    have HRO := hide (rstmt_ok (unhide HK) (hide (unhide HSO G (unhide HGE) (unhide HK))) 10000)
    have HX : Hid (exR G (E.s.size + 1) 10000 E.main 0 ⟨fun _ => 0, fun _ => 0, [], fuel⟩ = ecR E inp fuel) := by rw [hG]; exact hide rfl
    have HAT := hide hat
    have kM2 := ((unhide HP).below hn1 tw.2.2.2).cM
    have HWF := hide (show wf0 G.E (E.s.size + 1) E.main = (jm, false) by rw [unhide HGE]; exact unhide HJM)
    have HSN := hide (show RunI G.E.n ⟨fun _ => 0, fun _ => 0, [], fuel⟩ from sane0 hf)
    generalize hWW : (World.drew (World.alloc (World.alloc (World.alloc w _) _) _)) = W at *
    clear hat tw hWW hG
    rw [← unhide HGR]
    go_wp2_with fail
    refine (unhide HRO W _ _ 0 E.main jm (E.s.size + 1) (unhide HAT) (unhide HSN) (unhide HWF) (Nat.le_refl _) hf (by omega)).mono ?_
    rintro e w2 ⟨rfl, ov2, hr2⟩
    rw [unhide HX] at hr2
    rw [unhide HX]
    have y4 := hr2.c4
    have HOW := hide (show w2.ownsRow w.heap.size 84 2 ov2 (ecR E inp fuel).1.out.length (evC (ecR E inp fuel).1.out) by have := hr2.out; rw [unhide HGW] at this; exact this)
    have HBL := hide (show Below w.heap.size w w2 by have := hr2.bel; rw [unhide HGW] at this; exact this)
    clear hr2
    go_wp2_with fail
    go_ret2
    exact ⟨ov2, rfl, unhide HOW, unhide HBL⟩

end Go.Proofs.YtfcflnnleadpkaaGreat

namespace Go.Proofs.YtfcflnnleadpkaaGreat
open Go.RowKit


set_option maxHeartbeats 1600000 in
set_option maxRecDepth 10000 in
theorem Runs_walk (H : HushRun) (SO : ∀ (G : REnv) (F : Nat), RK G F → SOk G) (w : World) (o s : ByteArray) {iv : Value} {inp : Nat → List Nat} (fuel : Int) (hI : ∀ n, n ≤ 8 → InpR w iv n inp) :
    Calls Tryz.prog 3 #[.string o, .string s, iv, .int .i64 fuel] w fun e w' => e = .returned (.bool true) ∧ Below w.heap.size w w' := by
  have HC := hide H
  have HSO := hide SO
  have HIN := hide hI
  clear H SO hI
  have hnil : ∀ w, (binOp .eql 23 (.slice none 0 0) (.slice none 0 0)).run Tryz.prog w = .ok (.bool true) w := fun w => Lib.run_eql_slice_nil w _ _ none 0 0 0 0 Tryz.underlying23
  go_enter Tryz.func3, Tryz.ntmps3
  go_wp2_with fail
  refine (unhide HC _ _ _ _ _ _ (unhide HIN)).mono ?_
  rintro e w1 ⟨⟨a, p, n, hr, hans⟩, hb1⟩
  have HR := hide hr
  have HB1 := hide hb1
  clear hr hb1
  rcases hans with ⟨ha, rfl⟩ | ⟨rfl, rfl, hff, rfl⟩ | ⟨rfl, rfl, f, v, rfl, hf, hsl, rfl⟩
  · have ha' : decide (a = 0) = false := by simpa using ha
    go_wp2_with fail
    refine (Check_any _ _ _).mono ?_
    rintro e w2 ⟨⟨a', p', n', hr', hans⟩, hb2⟩
    obtain ⟨rfl, rfl, rfl⟩ := CkPost_uniq (unhide HR) hr'
    have HB := hide ((unhide HB1).trans (hb2.mono (unhide HB1).size))
    clear hr' hb2
    rcases hans with ⟨_, rfl⟩ | ⟨h0, _⟩
    · go_wp2_with (go_at_call 6; refine (num_any _ _).mono ?_; rintro e w' ⟨rfl, rfl⟩)
      go_ret
      exact ⟨rfl, unhide HB⟩
    · exact absurd h0 ha
  · have HFF := hide (show decide (0 ≤ fuel ∧ fuel ≤ 10000) = false by simpa using hff)
    go_wp2_with fail
    refine (Check_any _ _ _).mono ?_
    rintro e w2 ⟨⟨a', p', n', hr', hans⟩, hb2⟩
    obtain ⟨rfl, rfl, rfl⟩ := CkPost_uniq (unhide HR) hr'
    have HB := hide ((unhide HB1).trans (hb2.mono (unhide HB1).size))
    clear hr' hb2 hff
    rcases hans with ⟨h0, _⟩ | ⟨_, _, E, _, _, _, _, rfl⟩
    · exact absurd rfl h0
    · go_wp2_with fail
      refine (fuelled_any _ _).mono ?_
      rintro e w' ⟨rfl, rfl⟩
      rw [unhide HFF]
      go_wp2_with (go_at_call 6; refine (num_any _ _).mono ?_; rintro e w' ⟨rfl, rfl⟩)
      go_ret
      exact ⟨rfl, unhide HB⟩
  · have HFF := hide (show decide (0 ≤ (f : Int) ∧ (f : Int) ≤ 10000) = true by simp; omega)
    have HSL := hide hsl
    clear hsl
    go_wp2_with fail
    refine (Check_any _ _ _).mono ?_
    rintro e w2 ⟨⟨a', p', n', hr', hans⟩, hb2⟩
    obtain ⟨rfl, rfl, rfl⟩ := CkPost_uniq (unhide HR) hr'
    have HB := hide ((unhide HB1).trans (hb2.mono (unhide HB1).size))
    have HSL2 := hide ((unhide HSL).below hb2)
    have HIN2 := hide (fun n hn => (unhide HIN n hn).below (unhide HB))
    clear hr' hb2
    rcases hans with ⟨h0, _⟩ | ⟨_, _, E, hS, hA, _, _, rfl⟩
    · exact absurd rfl h0
    · obtain ⟨hrd, hpe⟩ : ReadPost o 0 0 n ∧ prE s n = 0 := by
        rcases unhide HR with ⟨_, h⟩ | ⟨_, h, e, _⟩ | ⟨_, _, _, e, _⟩ | ⟨h1, h2, _⟩
        · exact absurd rfl h
        · exact absurd e.symm h
        · omega
        · exact ⟨h1, h2⟩
      have K := known hrd hpe
      have HS := hide hS
      have HPG := hide hA.pg
      have e1 : E.n = n := hS.n
      have e2 : E.s = s := hS.s
      have hn1 : 1 ≤ E.n := by rw [e1]; exact K.A.n1
      have hn8 : E.n ≤ 8 := by rw [e1]; exact K.n8
      have hsz : E.s.size ≤ 300 := by rw [e2]; exact K.sz
      have hnv : E.nv ≤ 8 := by rw [hS.nv]; exact K.nv
      have hnp : E.np ≤ 4 := by rw [hS.np]; exact K.np
      have HI2 := hide (show InpR w2 iv E.n (inpN n inp) from (unhide HIN2 E.n hn8).congr (fun d hd => inpN_in (by omega)))
      have HQ := hide (show Parts E (E.s.size + 1) by rw [e2]; exact Parts.same hS K.Q)
      have HIB := hide (show ∀ d, E.n ≤ d → inpN n inp d = [] from fun d hd => inpN_out (by omega))
      have HEC := hide (show ecR E (inpN n inp) f = rnR o s n inp f from ecR_same hS _ _)
      clear hS hA K e1 e2 hrd hpe
      go_wp2_with fail
      refine (fuelled_any _ _).mono ?_
      rintro e w' ⟨rfl, rfl⟩
      rw [unhide HFF]
      go_wp2_with fail
      refine (Exec_any hn1 hn8 hsz hnv hnp (unhide HPG) (unhide HI2) (unhide HQ) (unhide HIB) hf (fun G _ K => unhide HSO G _ K)).mono ?_
      rintro e w3 ⟨ov, rfl, hown, hb3⟩
      rw [unhide HEC] at hown
      rw [unhide HEC]
      obtain ⟨r, HRR⟩ : ∃ r, Hid (rnR o s n inp f = r) := ⟨_, rfl⟩
      have HLEN : Hid (r.1.out.length ≤ 10000) := by
        rw [← unhide HRR]
        exact Nat.le_trans (ecR_len (pE (cl o n) s n) (inpN n inp) f) hf
      rw [unhide HRR] at hown HSL2
      rw [unhide HRR]
      obtain ⟨rs, re⟩ := r
      simp only at hown HSL2 HLEN
      have HOV := hide (show SlE w3 ov rs.out.length (evL rs.out) by rw [evC_twC] at hown; exact SlE.own hown)
      have HSL3 := hide ((unhide HSL2).below hb3)
      have HB3 := hide ((unhide HB).trans (hb3.mono (unhide HB).size))
      clear hown hb3
      go_wp2_with fail
      refine (events_any (by have := unhide HLEN; omega) (unhide HOV)).mono ?_
      rintro e w4 ⟨u, rfl, hu, hb4⟩
      have HU := hide hu
      have HSL4 := hide ((unhide HSL3).below hb4)
      have HB4 := hide ((unhide HB3).trans (hb4.mono (unhide HB3).size))
      clear hu hb4
      go_wp2_with fail
      refine (sameEvents_any (by have := unhide HLEN; omega) (unhide HSL4) (unhide HU)).mono ?_
      rintro e w5 ⟨x, rfl, hx, hb5⟩
      have hxt : x = true := hx.2 ⟨rfl, fun _ _ => rfl⟩
      subst hxt
      have HB5 := hide ((unhide HB4).trans (hb5.mono (unhide HB4).size))
      clear hx hb5
      go_wp2_with (go_at_call 6; refine (num_any _ _).mono ?_; rintro e w' ⟨rfl, rfl⟩)
      go_ret
      exact ⟨rfl, unhide HB5⟩

end Go.Proofs.YtfcflnnleadpkaaGreat

namespace Go.Proofs.YtfcflnnleadpkaaGreat
open Go.RowKit Go.ChangeShapes Go.WideShapes

theorem rows_open {H : Type} {enc : TypeId × Value → H} {W : World} {a : Option Addr} {len cap fu : Nat} {x : DataW H × List MemPlace} (hf : DataW.trod enc Tryz.prog W 0 (fun _ => true) true fu 22 (Value.cells (.slice a len cap)).toList = some x) :
    ∃ inp, ∀ n, n ≤ 8 → InpR W (.slice a len cap) n inp := by
  rcases Go.Deep.open_int_rows Tryz.underlying22 Tryz.underlying50 Tryz.underlying3 (show Tryz.prog.cellsOf 50 = 1 by kernel_rfl) (show Tryz.prog.cellsOf 3 = 1 by kernel_rfl) hf with ⟨hcs, _⟩ | ⟨a', len', cap', A, L, C, Z, hcs, _, hl, _, _, hr⟩
  · simp [Value.cells] at hcs
    obtain ⟨rfl, rfl, rfl⟩ := hcs
    exact ⟨fun _ => [], fun n _ => ⟨none, 0, 0, rfl, fun d _ => ⟨fun h => by omega, fun _ => rfl⟩⟩⟩
  · simp [Value.cells] at hcs
    obtain ⟨rfl, rfl, rfl⟩ := hcs
    refine ⟨fun d => if d < len then (List.range (L d)).map (fun j => ((Z d).getD j 0 % 65536).toNat) else [], fun n _ => ⟨some a', len, cap, rfl, fun d _ => ⟨fun h => ?_, fun h => if_neg (by omega)⟩⟩⟩
    obtain ⟨h1, h2, h3, h4, _, h6, h7⟩ := hr d (by omega)
    refine ⟨a', A d, L d, C d, fun j => (Z d).getD j 0, rfl, h1, fun j hj => ?_, if_pos h⟩
    cases hA : A d with
    | none => have := h6 hA; omega
    | some rad => exact ⟨rad, rfl, (h7 rad hA).2 j (by omega)⟩

end Go.Proofs.YtfcflnnleadpkaaGreat

namespace Go.Proofs.YtfcflnnleadpkaaGreat
open Go.RowKit

/-- A row of m cells, by its index. -/
def rowF (F : Nat → Value) (m : Nat) : Array Value := ((List.range m).map F).toArray
theorem rowF_size (F : Nat → Value) (m : Nat) : (rowF F m).size = m := by simp [rowF]
theorem rowF_get (F : Nat → Value) (m k : Nat) (h : k < m) : (rowF F m)[k]? = some (F k) := by simp [rowF, h]
theorem rowF_getE (F : Nat → Value) (m k : Nat) (h : k < (rowF F m).size) : (rowF F m)[k] = F k := by simp [rowF]
theorem rowF_congr {F G : Nat → Value} {m : Nat} (h : ∀ k, k < m → F k = G k) : rowF F m = rowF G m := by
  unfold rowF
  congr 1
  apply List.map_congr_left
  intro k hk
  exact h k (by simpa using hk)
theorem rowF_set {F G : Nat → Value} {m a : Nat} {v : Value} (h1 : G a = v) (h : ∀ k, k < m → k ≠ a → F k = G k) : (rowF F m).setIfInBounds a v = rowF G m := by
  apply Array.ext_getElem?
  intro k
  rw [Array.getElem?_setIfInBounds, rowF_size]
  by_cases hk : k < m
  · rw [rowF_get G m k hk, rowF_get F m k hk]
    by_cases e : a = k
    · subst e; rw [if_pos rfl, if_pos hk, h1]
    · rw [if_neg e, h k hk (fun x => e x.symm)]
  · have e1 : (rowF G m)[k]? = none := by rw [Array.getElem?_eq_none]; rw [rowF_size]; omega
    have e2 : (rowF F m)[k]? = none := by rw [Array.getElem?_eq_none]; rw [rowF_size]; omega
    rw [e1, e2]
    split
    · rw [if_neg (by omega)]
    · rfl
theorem rowF_all {F : Nat → Value} {m : Nat} (h : ∀ k, (F k).oneCell' = true) : (rowF F m).all (·.oneCell') = true := by
  rw [Array.all_eq_true_iff_forall_mem]
  intro v hv
  simp [rowF] at hv
  obtain ⟨k, _, rfl⟩ := hv
  exact h k
theorem rowF_cell {w : World} {b k m : Nat} {F : Nat → Value} {t : TypeId} {fr : Nat × Nat} (h : w.heap[b]? = some (.cells (rowF F m) t fr)) (hk : k < m) : w.cell? ⟨b, k, none⟩ = some (F k) := by
  rw [cell_of_row w b k _ t fr h, rowF_get F m k hk]

/-- The cells of a lattice, by index. -/
def latF (e p n : Int) (R : Nat → Nat → Bool) (J : Nat → Nat → Int) (z : Int) (k : Nat) : Value :=
  if k = 0 then .int .i64 e else if k = 1 then .int .i64 p else if k = 2 then .int .i64 n
  else if k < 67 then .bool (R ((k - 3) / 8) ((k - 3) % 8)) else if k < 131 then .int .i64 (J ((k - 67) / 8) ((k - 67) % 8)) else .int .i64 z
def latJ (e p n : Int) (R : Nat → Nat → Bool) (J : Nat → Nat → Int) (z : Int) : Array Value := rowF (latF e p n R J z) 132
def noJ : Nat → Nat → Int := fun _ _ => 0
/-- A lattice whose joins are not kept yet. -/
def latC (e p n : Int) (R : Nat → Nat → Bool) : Array Value := latJ e p n R noJ 0
theorem latC_J (e p n : Int) (R : Nat → Nat → Bool) : latC e p n R = latJ e p n R noJ 0 := rfl

theorem latF_one (e p n : Int) (R : Nat → Nat → Bool) (J : Nat → Nat → Int) (z : Int) (k : Nat) : (latF e p n R J z k).oneCell' = true := by
  unfold latF
  repeat' split
  all_goals rfl
theorem latF_ij (e p n : Int) (R : Nat → Nat → Bool) (J : Nat → Nat → Int) (z : Int) (i j : Nat) (hi : i < 8) (hj : j < 8) : latF e p n R J z (3 + i * 8 + j) = .bool (R i j) := by
  unfold latF
  rw [if_neg (by omega), if_neg (by omega), if_neg (by omega), if_pos (by omega), show (3 + i * 8 + j - 3) / 8 = i by omega, show (3 + i * 8 + j - 3) % 8 = j by omega]
theorem latF_jj (e p n : Int) (R : Nat → Nat → Bool) (J : Nat → Nat → Int) (z : Int) (i j : Nat) (hi : i < 8) (hj : j < 8) : latF e p n R J z (67 + i * 8 + j) = .int .i64 (J i j) := by
  unfold latF
  rw [if_neg (by omega), if_neg (by omega), if_neg (by omega), if_neg (by omega), if_pos (by omega), show (67 + i * 8 + j - 67) / 8 = i by omega, show (67 + i * 8 + j - 67) % 8 = j by omega]
theorem latJ_size (e p n : Int) (R : Nat → Nat → Bool) (J : Nat → Nat → Int) (z : Int) : (latJ e p n R J z).size = 132 := rowF_size _ _
theorem latJ_all (e p n : Int) (R : Nat → Nat → Bool) (J : Nat → Nat → Int) (z : Int) : (latJ e p n R J z).all (·.oneCell') = true := rowF_all (latF_one _ _ _ _ _ _)
theorem latC_size (e p n : Int) (R : Nat → Nat → Bool) : (latC e p n R).size = 132 := rowF_size _ _
theorem latC_all (e p n : Int) (R : Nat → Nat → Bool) : (latC e p n R).all (·.oneCell') = true := latJ_all _ _ _ _ _ _
theorem latC_ij (e p n : Int) (R : Nat → Nat → Bool) (i j : Nat) (hi : i < 8) (hj : j < 8) : (latC e p n R)[3 + i * 8 + j]? = some (.bool (R i j)) := by
  unfold latC latJ
  rw [rowF_get _ _ _ (by omega), latF_ij _ _ _ _ _ _ _ _ hi hj]
theorem latJ_congr (e p n : Int) (R S : Nat → Nat → Bool) (J K : Nat → Nat → Int) (z : Int) (h : ∀ i j, i < 8 → j < 8 → R i j = S i j) (hJ : ∀ i j, i < 8 → j < 8 → J i j = K i j) : latJ e p n R J z = latJ e p n S K z := by
  refine rowF_congr (fun k hk => ?_)
  unfold latF
  by_cases h3 : k < 67
  · repeat' split
    all_goals try rfl
    all_goals first | omega | rw [h ((k - 3) / 8) ((k - 3) % 8) (by omega) (by omega)]
  · repeat' split
    all_goals try rfl
    all_goals first | omega | rw [hJ ((k - 67) / 8) ((k - 67) % 8) (by omega) (by omega)]
theorem latC_congr (e p n : Int) (R S : Nat → Nat → Bool) (h : ∀ i j, i < 8 → j < 8 → R i j = S i j) : latC e p n R = latC e p n S := latJ_congr _ _ _ _ _ _ _ _ h (fun _ _ _ _ => rfl)
theorem latC_set (e p n : Int) (R : Nat → Nat → Bool) (a b : Nat) (v : Bool) (ha : a < 8) (hb : b < 8) : (latC e p n R).setIfInBounds (3 + a * 8 + b) (.bool v) = latC e p n (updV R a b v) := by
  refine rowF_set ?_ (fun k hk hne => ?_)
  · rw [latF_ij _ _ _ _ _ _ _ _ ha hb]; simp [updV]
  · unfold latF
    repeat' split
    all_goals try rfl
    rename_i h1 h2 h3 h4
    have : ((k - 3) / 8 == a && (k - 3) % 8 == b) = false := by
      cases h : ((k - 3) / 8 == a && (k - 3) % 8 == b) with
      | false => rfl
      | true => simp at h; exact absurd (by omega) hne
    simp [updV, this]
def updJ (J : Nat → Nat → Int) (a b : Nat) (v : Int) : Nat → Nat → Int := fun i j => if i == a && j == b then v else J i j
theorem latJ_set (e p n : Int) (R : Nat → Nat → Bool) (J : Nat → Nat → Int) (z : Int) (a b : Nat) (v : Int) (ha : a < 8) (hb : b < 8) : (latJ e p n R J z).setIfInBounds (67 + a * 8 + b) (.int .i64 v) = latJ e p n R (updJ J a b v) z := by
  refine rowF_set ?_ (fun k hk hne => ?_)
  · rw [latF_jj _ _ _ _ _ _ _ _ ha hb]; simp [updJ]
  · unfold latF
    repeat' split
    all_goals try rfl
    rename_i h1 h2 h3 h4 h5
    have : ((k - 67) / 8 == a && (k - 67) % 8 == b) = false := by
      cases h : ((k - 67) / 8 == a && (k - 67) % 8 == b) with
      | false => rfl
      | true => simp at h; exact absurd (by omega) hne
    simp [updJ, this]
theorem latJ_setz (e p n : Int) (R : Nat → Nat → Bool) (J : Nat → Nat → Int) (z z' : Int) : (latJ e p n R J z).setIfInBounds 131 (.int .i64 z') = latJ e p n R J z' := by
  refine rowF_set rfl (fun k hk hne => ?_)
  unfold latF
  repeat' split
  all_goals first | rfl | omega
theorem latC_set0 (e e' p n : Int) (R : Nat → Nat → Bool) : (latC e p n R).setIfInBounds 0 (.int .i64 e') = latC e' p n R := by
  refine rowF_set rfl (fun k hk hne => ?_)
  unfold latF; rw [if_neg hne, if_neg hne]
theorem latC_set1 (e p p' n : Int) (R : Nat → Nat → Bool) : (latC e p n R).setIfInBounds 1 (.int .i64 p') = latC e p' n R := by
  refine rowF_set rfl (fun k hk hne => ?_)
  unfold latF; rw [if_neg hne, if_neg hne]
theorem latC_set2 (e p n n' : Int) (R : Nat → Nat → Bool) : (latC e p n R).setIfInBounds 2 (.int .i64 n') = latC e p n' R := by
  refine rowF_set rfl (fun k hk hne => ?_)
  unfold latF; rw [if_neg hne, if_neg hne]
theorem latJ_g0 (e p n : Int) (R : Nat → Nat → Bool) (J : Nat → Nat → Int) (z : Int) (h : 0 < (latJ e p n R J z).size) : (latJ e p n R J z)[0] = .int .i64 e := rowF_getE _ _ _ h
theorem latJ_g1 (e p n : Int) (R : Nat → Nat → Bool) (J : Nat → Nat → Int) (z : Int) (h : 1 < (latJ e p n R J z).size) : (latJ e p n R J z)[1] = .int .i64 p := rowF_getE _ _ _ h
theorem latC_g0 (e p n : Int) (R : Nat → Nat → Bool) (h : 0 < (latC e p n R).size) : (latC e p n R)[0] = .int .i64 e := rowF_getE _ _ _ h
theorem latC_g1 (e p n : Int) (R : Nat → Nat → Bool) (h : 1 < (latC e p n R).size) : (latC e p n R)[1] = .int .i64 p := rowF_getE _ _ _ h

end Go.Proofs.YtfcflnnleadpkaaGreat

namespace Go.Proofs.YtfcflnnleadpkaaGreat
open Go.RowKit

/-- A lattice in memory at the block b: its count and its table. -/
structure LatM (w : World) (b o : Nat) (n : Nat) (R : Nat → Nat → Bool) : Prop where
  cnt : w.cell? ⟨b, o + 2, none⟩ = some (.int .i64 (n : Int))
  bel : ∀ i j, i < 8 → j < 8 → w.cell? ⟨b, o + 3 + i * 8 + j, none⟩ = some (.bool (R i j))

set_option maxHeartbeats 400000 in
theorem has_any (w : World) (b o n : Nat) (a : Int) (hc : w.cell? ⟨b, o + 2, none⟩ = some (.int .i64 (n : Int))) :
    Calls Tryz.prog 98 #[.pointer (some ⟨b, o, none⟩), .int .i64 a] w fun e w' => e = .returned (.bool (decide (0 ≤ a ∧ a < (n : Int)))) ∧ w' = w := by
  by_cases h0 : 0 ≤ a
  · by_cases h1 : a < (n : Int)
    · go_enter Tryz.func98, Tryz.ntmps98
      go_wp2
      go_ret
      exact ⟨by simp [h0, h1], rfl⟩
    · go_enter Tryz.func98, Tryz.ntmps98
      go_wp2
      go_ret
      exact ⟨by simp [h1], rfl⟩
  · have hd : decide (0 ≤ a) = false := by simpa using h0
    have hr : decide (0 ≤ a ∧ a < (n : Int)) = false := by simp; omega
    go_enter Tryz.func98, Tryz.ntmps98
    go_wp2
    go_ret
    exact ⟨rfl, rfl⟩

set_option maxHeartbeats 400000 in
theorem isBelow_any (w : World) (b o n i j : Nat) (R : Nat → Nat → Bool) (hn : n ≤ 8) (hl : LatM w b o n R) (hi : i < n) (hj : j < n) :
    Calls Tryz.prog 77 #[.pointer (some ⟨b, o, none⟩), .int .i64 (i : Int), .int .i64 (j : Int)] w fun e w' => e = .returned (.bool (R i j)) ∧ w' = w := by
  have hc := hl.cnt
  have hb := hl.bel i j (by omega) (by omega)
  have q1 : decide (0 ≤ (i : Int) ∧ (i : Int) < (n : Int)) = true := by simp; omega
  have q2 : decide (0 ≤ (j : Int) ∧ (j : Int) < (n : Int)) = true := by simp; omega
  have hi' : (i : Int) < 8 := by omega
  have hj' : (j : Int) < 8 := by omega
  go_enter Tryz.func77, Tryz.ntmps77
  go_wp2_with (go_at_call 98; refine (has_any _ _ _ _ _ hc).mono ?_; rintro e w' ⟨rfl, rfl⟩)
  go_ret
  exact ⟨rfl, rfl⟩

set_option maxHeartbeats 400000 in
theorem bothBelow_any (w : World) (b o n i j k : Nat) (R : Nat → Nat → Bool) (hn : n ≤ 8) (hl : LatM w b o n R) (hi : i < n) (hj : j < n) (hk : k < n) :
    Calls Tryz.prog 111 #[.pointer (some ⟨b, o, none⟩), .int .i64 (i : Int), .int .i64 (j : Int), .int .i64 (k : Int)] w fun e w' => e = .returned (.bool (Hm.both R i j k)) ∧ w' = w := by
  unfold Hm.both
  cases h1 : R i k
  · go_enter Tryz.func111, Tryz.ntmps111
    go_wp2_with fail
    refine (isBelow_any _ _ _ _ _ _ _ hn hl hi hk).mono ?_
    rintro e w' ⟨rfl, rfl⟩
    go_wp2_with fail
    go_ret
    exact ⟨rfl, rfl⟩
  · go_enter Tryz.func111, Tryz.ntmps111
    go_wp2_with fail
    refine (isBelow_any _ _ _ _ _ _ _ hn hl hi hk).mono ?_
    rintro e w' ⟨rfl, rfl⟩
    go_wp2_with fail
    refine (isBelow_any _ _ _ _ _ _ _ hn hl hj hk).mono ?_
    rintro e w' ⟨rfl, rfl⟩
    go_wp2_with fail
    go_ret
    exact ⟨rfl, rfl⟩

set_option maxHeartbeats 400000 in
theorem isJoin_any (w : World) (b o n i j k : Nat) (R : Nat → Nat → Bool) (hn : n ≤ 8) (hl : LatM w b o n R) (hi : i < n) (hj : j < n) (hk : k < n) :
    Calls Tryz.prog 97 #[.pointer (some ⟨b, o, none⟩), .int .i64 (i : Int), .int .i64 (j : Int), .int .i64 (k : Int)] w fun e w' => e = .returned (.bool (Hm.lub R n i j k)) ∧ w' = w := by
  have hc := hl.cnt
  cases h1 : Hm.both R i j k
  · have HF := hide (show Hm.lub R n i j k = false by simp [Hm.lub, h1])
    go_enter Tryz.func97, Tryz.ntmps97
    go_wp2_with fail
    refine (bothBelow_any _ _ _ _ _ _ _ _ hn hl hi hj hk).mono ?_
    rintro e w' ⟨rfl, rfl⟩
    go_wp2_with fail
    go_ret
    exact ⟨by rw [unhide HF]; rfl, rfl⟩
  · have HF := hide (show Hm.lub R n i j k = Hm.allB (Hm.lubD R i j k) n 0 by simp [Hm.lub, h1])
    go_enter Tryz.func97, Tryz.ntmps97
    go_wp2_with fail
    refine (bothBelow_any _ _ _ _ _ _ _ _ hn hl hi hj hk).mono ?_
    rintro e w' ⟨rfl, rfl⟩
    go_wp2_with fail
    go_loop [9] (fun d => ∃ m : Nat, m ≤ n ∧ d = .int .i64 (m : Int) ∧ Hm.allB (Hm.lubD R i j k) n 0 = Hm.allB (Hm.lubD R i j k) (n - m) m) (fun d => n - (intOf d).toNat)
    case atStart => exact ⟨0, Nat.zero_le _, rfl, rfl⟩
    case round =>
      obtain ⟨m, hm, rfl, hq⟩ := hrel
      have HQ := hide hq
      clear hq
      by_cases hlt : m < n
      · cases h2 : Hm.both R i j m
        · have HS := hide (Hm.allB_yes (p := Hm.lubD R i j k) hlt (by simp [Hm.lubD, h2]))
          go_wp2_with fail
          refine (bothBelow_any _ _ _ _ _ _ _ _ hn hl hi hj hlt).mono ?_
          rintro e w' ⟨rfl, rfl⟩
          go_wp2_with fail
          go_round
          case rel => exact ⟨m + 1, by omega, by go_num, by rw [unhide HQ, unhide HS]⟩
          case measure => simp [intOf]; omega
        · cases h3 : R k m
          · have HS := hide (Hm.allB_no (p := Hm.lubD R i j k) hlt (by simp [Hm.lubD, h2, h3]))
            go_wp2_with fail
            refine (bothBelow_any _ _ _ _ _ _ _ _ hn hl hi hj hlt).mono ?_
            rintro e w' ⟨rfl, rfl⟩
            go_wp2_with fail
            refine (isBelow_any _ _ _ _ _ _ _ hn hl hk hlt).mono ?_
            rintro e w' ⟨rfl, rfl⟩
            go_wp2_with fail
            go_ret
            exact ⟨by rw [unhide HF, unhide HQ, unhide HS]; rfl, rfl⟩
          · have HS := hide (Hm.allB_yes (p := Hm.lubD R i j k) hlt (by simp [Hm.lubD, h2, h3]))
            go_wp2_with fail
            refine (bothBelow_any _ _ _ _ _ _ _ _ hn hl hi hj hlt).mono ?_
            rintro e w' ⟨rfl, rfl⟩
            go_wp2_with fail
            refine (isBelow_any _ _ _ _ _ _ _ hn hl hk hlt).mono ?_
            rintro e w' ⟨rfl, rfl⟩
            go_wp2_with fail
            go_round
            case rel => exact ⟨m + 1, by omega, by go_num, by rw [unhide HQ, unhide HS]⟩
            case measure => simp [intOf]; omega
      · have HS := hide (Hm.allB_end (p := Hm.lubD R i j k) (n := n) (k := m) (by omega))
        go_wp2_with fail
        go_ret
        exact ⟨by rw [unhide HF, unhide HQ, unhide HS]; rfl, rfl⟩

end Go.Proofs.YtfcflnnleadpkaaGreat

namespace Go.Proofs.YtfcflnnleadpkaaGreat
open Go.RowKit

set_option maxHeartbeats 400000 in
theorem findJoin_any (w : World) (b o n i j : Nat) (R : Nat → Nat → Bool) (hn : n ≤ 8) (hl : LatM w b o n R) (hi : i < n) (hj : j < n) :
    Calls Tryz.prog 76 #[.pointer (some ⟨b, o, none⟩), .int .i64 (i : Int), .int .i64 (j : Int)] w fun e w' => e = .returned (.int .i64 (Hm.joinI R n i j)) ∧ w' = w := by
  have hc := hl.cnt
  have HF := hide (show Hm.joinI R n i j = Hm.firstB (Hm.lub R n i j) n 0 from rfl)
  go_enter Tryz.func76, Tryz.ntmps76
  go_wp2_with fail
  go_loop [7] (fun d => ∃ m : Nat, m ≤ n ∧ d = .int .i64 (m : Int) ∧ Hm.firstB (Hm.lub R n i j) n 0 = Hm.firstB (Hm.lub R n i j) (n - m) m) (fun d => n - (intOf d).toNat)
  case atStart => exact ⟨0, Nat.zero_le _, rfl, rfl⟩
  case round =>
    obtain ⟨m, hm, rfl, hq⟩ := hrel
    have HQ := hide hq
    clear hq
    by_cases hlt : m < n
    · cases h2 : Hm.lub R n i j m
      · have HS := hide (Hm.firstB_no (p := Hm.lub R n i j) hlt h2)
        go_wp2_with fail
        refine (isJoin_any _ _ _ _ _ _ _ _ hn hl hi hj hlt).mono ?_
        rintro e w' ⟨rfl, rfl⟩
        go_wp2_with fail
        go_round
        case rel => exact ⟨m + 1, by omega, by go_num, by rw [unhide HQ, unhide HS]⟩
        case measure => simp [intOf]; omega
      · have HS := hide (Hm.firstB_yes (p := Hm.lub R n i j) hlt h2)
        go_wp2_with fail
        refine (isJoin_any _ _ _ _ _ _ _ _ hn hl hi hj hlt).mono ?_
        rintro e w' ⟨rfl, rfl⟩
        go_wp2_with fail
        go_ret
        exact ⟨by rw [unhide HF, unhide HQ, unhide HS]; rfl, rfl⟩
    · have HS := hide (Hm.firstB_end (p := Hm.lub R n i j) (n := n) (k := m) (by omega))
      go_wp2_with fail
      go_ret
      exact ⟨by rw [unhide HF, unhide HQ, unhide HS]; rfl, rfl⟩

set_option maxHeartbeats 400000 in
theorem hasCircle_any (w : World) (b o n : Nat) (R : Nat → Nat → Bool) (hn : n ≤ 8) (hl : LatM w b o n R) :
    Calls Tryz.prog 73 #[.pointer (some ⟨b, o, none⟩)] w fun e w' => e = .returned (.bool (Hm.circ R n)) ∧ w' = w := by
  have hc := hl.cnt
  have HF := hide (show Hm.circ R n = Hm.anyB (Hm.circRow R) n 0 from rfl)
  go_enter Tryz.func73, Tryz.ntmps73
  go_wp2_with fail
  go_loop [3] (fun d => ∃ a : Nat, a ≤ n ∧ d = .int .i64 (a : Int) ∧ Hm.anyB (Hm.circRow R) n 0 = Hm.anyB (Hm.circRow R) (n - a) a) (fun d => n - (intOf d).toNat)
  case atStart => exact ⟨0, Nat.zero_le _, rfl, rfl⟩
  case round =>
    obtain ⟨a, ha, rfl, hq⟩ := hrel
    have HQ := hide hq
    clear hq
    by_cases hlt : a < n
    · have HY := hide (fun h => Hm.anyB_yes (p := Hm.circRow R) hlt h)
      have HN := hide (fun h => Hm.anyB_no (p := Hm.circRow R) hlt h)
      have HG := hide (show Hm.circRow R a = Hm.anyB (Hm.circD R a) a 0 from rfl)
      have ha' : (a : Int) < 8 := by omega
      go_wp2_with fail
      go_loop [4] (fun d => ∃ m : Nat, m ≤ a ∧ d = .int .i64 (m : Int) ∧ Hm.anyB (Hm.circD R a) a 0 = Hm.anyB (Hm.circD R a) (a - m) m) (fun d => a - (intOf d).toNat)
      case atStart => exact ⟨0, Nat.zero_le _, rfl, rfl⟩
      case round =>
        obtain ⟨m, hm, rfl, hq⟩ := hrel
        have HP := hide hq
        clear hq
        by_cases hlm : m < a
        · have hb1 := hl.bel a m (by omega) (by omega)
          have hb2 := hl.bel m a (by omega) (by omega)
          have hm' : (m : Int) < 8 := by omega
          cases h1 : R a m
          · have HS := hide (Hm.anyB_no (p := Hm.circD R a) hlm (by simp [Hm.circD, h1]))
            rw [h1] at hb1
            go_wp2_with fail
            go_round
            case rel => exact ⟨m + 1, by omega, by go_num, by rw [unhide HP, unhide HS]⟩
            case measure => simp [intOf]; omega
          · rw [h1] at hb1
            cases h2 : R m a
            · have HS := hide (Hm.anyB_no (p := Hm.circD R a) hlm (by simp [Hm.circD, h2]))
              rw [h2] at hb2
              go_wp2_with fail
              go_round
              case rel => exact ⟨m + 1, by omega, by go_num, by rw [unhide HP, unhide HS]⟩
              case measure => simp [intOf]; omega
            · have HS := hide (Hm.anyB_yes (p := Hm.circD R a) hlm (by simp [Hm.circD, h1, h2]))
              rw [h2] at hb2
              go_wp2_with fail
              go_ret
              exact ⟨by rw [unhide HF, unhide HQ, unhide HY (by rw [unhide HG, unhide HP, unhide HS])]; rfl, rfl⟩
        · have HS := hide (Hm.anyB_end (p := Hm.circD R a) (n := a) (k := m) (by omega))
          go_wp2_with fail
          go_round
          case rel => exact ⟨a + 1, by omega, by go_num, by rw [unhide HQ, unhide HN (by rw [unhide HG, unhide HP, unhide HS])]⟩
          case measure => simp [intOf]; omega
    · have HS := hide (Hm.anyB_end (p := Hm.circRow R) (n := n) (k := a) (by omega))
      go_wp2_with fail
      go_ret
      exact ⟨by rw [unhide HF, unhide HQ, unhide HS]; rfl, rfl⟩

set_option maxHeartbeats 400000 in
theorem hasJoins_any (w : World) (b o n : Nat) (R : Nat → Nat → Bool) (hn : n ≤ 8) (hl : LatM w b o n R) :
    Calls Tryz.prog 74 #[.pointer (some ⟨b, o, none⟩)] w fun e w' => e = .returned (.bool (Hm.hasJ R n)) ∧ w' = w := by
  have hc := hl.cnt
  have HF := hide (show Hm.hasJ R n = Hm.allB (Hm.hasRow R n) n 0 from rfl)
  go_enter Tryz.func74, Tryz.ntmps74
  go_wp2_with fail
  go_loop [3] (fun d => ∃ a : Nat, a ≤ n ∧ d = .int .i64 (a : Int) ∧ Hm.allB (Hm.hasRow R n) n 0 = Hm.allB (Hm.hasRow R n) (n - a) a) (fun d => n - (intOf d).toNat)
  case atStart => exact ⟨0, Nat.zero_le _, rfl, rfl⟩
  case round =>
    obtain ⟨a, ha, rfl, hq⟩ := hrel
    have HQ := hide hq
    clear hq
    by_cases hlt : a < n
    · have HY := hide (fun h => Hm.allB_yes (p := Hm.hasRow R n) hlt h)
      have HN := hide (fun h => Hm.allB_no (p := Hm.hasRow R n) hlt h)
      have HG := hide (show Hm.hasRow R n a = Hm.allB (Hm.hasD R n a) a 0 from rfl)
      go_wp2_with fail
      go_loop [4] (fun d => ∃ m : Nat, m ≤ a ∧ d = .int .i64 (m : Int) ∧ Hm.allB (Hm.hasD R n a) a 0 = Hm.allB (Hm.hasD R n a) (a - m) m) (fun d => a - (intOf d).toNat)
      case atStart => exact ⟨0, Nat.zero_le _, rfl, rfl⟩
      case round =>
        obtain ⟨m, hm, rfl, hq⟩ := hrel
        have HP := hide hq
        clear hq
        by_cases hlm : m < a
        · have hmn : m < n := by omega
          cases h1 : (Hm.joinI R n a m == -1)
          · have HS := hide (Hm.allB_yes (p := Hm.hasD R n a) hlm (by unfold Hm.hasD; rw [h1]; rfl))
            go_wp2_with fail
            refine (findJoin_any _ _ _ _ _ _ _ hn hl hlt hmn).mono ?_
            rintro e w' ⟨rfl, rfl⟩
            go_wp2_with fail
            go_round
            case rel => exact ⟨m + 1, by omega, by go_num, by rw [unhide HP, unhide HS]⟩
            case measure => simp [intOf]; omega
          · have HS := hide (Hm.allB_no (p := Hm.hasD R n a) hlm (by unfold Hm.hasD; rw [h1]; rfl))
            go_wp2_with fail
            refine (findJoin_any _ _ _ _ _ _ _ hn hl hlt hmn).mono ?_
            rintro e w' ⟨rfl, rfl⟩
            go_wp2_with fail
            go_ret
            exact ⟨by rw [unhide HF, unhide HQ, unhide HN (by rw [unhide HG, unhide HP, unhide HS])]; rfl, rfl⟩
        · have HS := hide (Hm.allB_end (p := Hm.hasD R n a) (n := a) (k := m) (by omega))
          go_wp2_with fail
          go_round
          case rel => exact ⟨a + 1, by omega, by go_num, by rw [unhide HQ, unhide HY (by rw [unhide HG, unhide HP, unhide HS])]⟩
          case measure => simp [intOf]; omega
    · have HS := hide (Hm.allB_end (p := Hm.hasRow R n) (n := n) (k := a) (by omega))
      go_wp2_with fail
      go_ret
      exact ⟨by rw [unhide HF, unhide HQ, unhide HS]; rfl, rfl⟩

end Go.Proofs.YtfcflnnleadpkaaGreat

namespace Go.Proofs.YtfcflnnleadpkaaGreat
open Go.RowKit

theorem LatM.c0 {w : World} {b n : Nat} {R : Nat → Nat → Bool} (h : LatM w b 0 n R) : w.cell? ⟨b, 2, none⟩ = some (.int .i64 (n : Int)) := by simpa using h.cnt
theorem LatM.b0 {w : World} {b n : Nat} {R : Nat → Nat → Bool} (h : LatM w b 0 n R) (i j : Nat) (hi : i < 8) (hj : j < 8) : w.cell? ⟨b, 3 + i * 8 + j, none⟩ = some (.bool (R i j)) := by simpa using h.bel i j hi hj
theorem latJ_lat {w : World} {b n : Nat} {e p : Int} {R : Nat → Nat → Bool} {J : Nat → Nat → Int} {z : Int} {t : TypeId} {fr : Nat × Nat} (h : w.heap[b]? = some (.cells (latJ e p n R J z) t fr)) : LatM w b 0 n R :=
  ⟨rowF_cell h (by omega), fun i j hi hj => by rw [show 0 + 3 + i * 8 + j = 3 + i * 8 + j by omega, rowF_cell h (by omega), latF_ij _ _ _ _ _ _ _ _ hi hj]⟩
theorem latC_lat {w : World} {b n : Nat} {e p : Int} {R : Nat → Nat → Bool} {t : TypeId} {fr : Nat × Nat} (h : w.heap[b]? = some (.cells (latC e p n R) t fr)) : LatM w b 0 n R := latJ_lat h
theorem lat_set {w : World} {b : Nat} {n e p : Int} {R S : Nat → Nat → Bool} {t : TypeId} {fr : Nat × Nat} (h : w.heap[b]? = some (.cells (latC e p n R) t fr)) {i j : Nat} {v : Bool} (hi : i < 8) (hj : j < 8)
    (hS : ∀ x y, x < 8 → y < 8 → updV R i j v x y = S x y) : w.setCell ⟨b, 3 + i * 8 + j, none⟩ (.bool v) = w.setRow b (latC e p n S) := by
  rw [setCell_eq_setRow w b _ _ t fr _ h, latC_set _ _ _ _ _ _ _ hi hj, latC_congr _ _ _ _ S hS]

set_option maxHeartbeats 1000000 in
set_option maxRecDepth 100000 in
theorem addSteps_any (w : World) (b n : Nat) (R : Nat → Nat → Bool) (t : TypeId) (hn : n ≤ 8) (hg : w.heap[b]? = some (.cells (latC 0 0 n R) t (0, 0))) :
    Calls Tryz.prog 41 #[.pointer (some ⟨b, 0, none⟩)] w fun e w' => e = .returned (.tuple #[]) ∧ w' = w.setRow b (latC 0 0 n (wf n R n)) := by
  have HG := hide (fun S : Nat → Nat → Bool => setRow_heap w b _ (latC 0 0 n S) t (0, 0) hg)
  have HC := hide (fun S : Nat → Nat → Bool => latC_lat (setRow_heap w b _ (latC 0 0 n S) t (0, 0) hg))
  have HZ := hide (fun (S : Nat → Nat → Bool) j => frozen_of_row (w.setRow b (latC 0 0 n S)) b j _ t (setRow_heap w b _ _ t (0, 0) hg))
  have HS := hide (show w = w.setRow b (latC 0 0 n (diagU R 0)) by
    rw [latC_congr 0 0 n (diagU R 0) R (fun i j _ _ => by simp [diagU]), setRow_self w b _ t (0, 0) hg])
  clear hg
  go_enter Tryz.func41, Tryz.ntmps41
  go_wp2_with fail
  go_loopw [2] (fun d wr => ∃ a : Nat, a ≤ n ∧ d = .int .i64 (a : Int) ∧ wr = w.setRow b (latC 0 0 n (diagU R a))) (fun d _ => n - (intOf d).toNat)
  case atStart => exact ⟨0, Nat.zero_le _, rfl, unhide HS⟩
  case round =>
    obtain ⟨a, ha, rfl, rfl⟩ := hrel
    have hc := (unhide HC (diagU R a)).c0
    by_cases hlt : a < n
    · have hb := (unhide HC (diagU R a)).b0 a a (by omega) (by omega)
      have hz := unhide HZ (diagU R a) (3 + a * 8 + a)
      have ha' : (a : Int) < 8 := by omega
      go_wp2_with fail
      go_roundw
      case rel => exact ⟨a + 1, by omega, by go_num, by rw [lat_set (unhide HG (diagU R a)) (by omega) (by omega) (fun x y _ _ => diagU_step R a x y), setRow_setRow]⟩
      case measure => simp [intOf]; omega
    · have ea : a = n := by omega
      subst ea
      go_wp2_with fail
      clear hc
      go_loopw [3] (fun d wr => ∃ k : Nat, k ≤ a ∧ d = .int .i64 (k : Int) ∧ wr = w.setRow b (latC 0 0 a (wf a R k))) (fun d _ => a - (intOf d).toNat)
      case atStart => exact ⟨0, Nat.zero_le _, rfl, rfl⟩
      case round =>
        obtain ⟨k, hk, rfl, rfl⟩ := hrel
        have hc := (unhide HC (wf a R k)).c0
        by_cases hlk : k < a
        · have hk' : (k : Int) < 8 := by omega
          have HK := hide (show wf a R (k + 1) = stp a (wf a R k) k a 0 from rfl)
          generalize wf a R k = S at *
          go_wp2_with fail
          clear hc
          go_loopw [4] (fun d wr => ∃ i : Nat, i ≤ a ∧ d = .int .i64 (i : Int) ∧ wr = w.setRow b (latC 0 0 a (stp a S k i 0))) (fun d _ => a - (intOf d).toNat)
          case atStart => exact ⟨0, Nat.zero_le _, rfl, by rw [stp_zero]⟩
          case round =>
            obtain ⟨i, hi, rfl, rfl⟩ := hrel
            have hc := (unhide HC (stp a S k i 0)).c0
            by_cases hli : i < a
            · have hi' : (i : Int) < 8 := by omega
              go_wp2_with fail
              clear hc
              go_loopw [5] (fun d wr => ∃ j : Nat, j ≤ a ∧ d = .int .i64 (j : Int) ∧ wr = w.setRow b (latC 0 0 a (stp a S k i j))) (fun d _ => a - (intOf d).toNat)
              case atStart => exact ⟨0, Nat.zero_le _, rfl, rfl⟩
              case round =>
                obtain ⟨j, hj, rfl, rfl⟩ := hrel
                have hc := (unhide HC (stp a S k i j)).c0
                by_cases hlj : j < a
                · have hj' : (j : Int) < 8 := by omega
                  have b1 := (unhide HC (stp a S k i j)).b0 i k (by omega) (by omega)
                  have b2 := (unhide HC (stp a S k i j)).b0 k j (by omega) (by omega)
                  have b3 := (unhide HC (stp a S k i j)).b0 i j (by omega) (by omega)
                  rw [stp_col] at b1
                  rw [stp_row] at b2
                  cases h1 : S i k
                  · rw [h1] at b1
                    have HN := hide (stp_no a S k i j (by simp [h1]))
                    go_wp2_with fail
                    go_roundw
                    case rel => exact ⟨j + 1, by omega, by go_num, by rw [unhide HN]⟩
                    case measure => simp [intOf]; omega
                  · rw [h1] at b1
                    cases h2 : S k j
                    · rw [h2] at b2
                      have HN := hide (stp_no a S k i j (by simp [h2]))
                      go_wp2_with fail
                      go_roundw
                      case rel => exact ⟨j + 1, by omega, by go_num, by rw [unhide HN]⟩
                      case measure => simp [intOf]; omega
                    · rw [h2] at b2
                      have hz := unhide HZ (stp a S k i j) (3 + i * 8 + j)
                      go_wp2_with fail
                      go_roundw
                      case rel => exact ⟨j + 1, by omega, by go_num, by rw [lat_set (unhide HG (stp a S k i j)) (by omega) (by omega) (fun x y _ _ => stp_set a S k i j hlj h1 h2 x y), setRow_setRow]⟩
                      case measure => simp [intOf]; omega
                · go_wp2_with fail
                  go_roundw
                  case rel => exact ⟨i + 1, by omega, by go_num, by rw [stp_next a S k i j (by omega)]⟩
                  case measure => simp [intOf]; omega
            · have ei : i = a := by omega
              subst ei
              go_wp2_with fail
              go_roundw
              case rel => exact ⟨k + 1, by omega, by go_num, by rw [unhide HK]⟩
              case measure => simp [intOf]; omega
        · have ek : k = a := by omega
          subst ek
          go_wp2_with fail
          go_end0
          exact ⟨rfl, rfl⟩

end Go.Proofs.YtfcflnnleadpkaaGreat

namespace Go.Proofs.YtfcflnnleadpkaaGreat
open Go.RowKit

set_option maxHeartbeats 400000 in
theorem isDigit_any (w : World) (c lim : Int) (h0 : 0 ≤ c) (h1 : c ≤ 255) :
    Calls Tryz.prog 78 #[.int .u8 c, .int .i64 lim] w fun e w' => e = .returned (.bool (isDB c lim)) ∧ w' = w := by
  by_cases a1 : 48 ≤ c
  · by_cases a2 : c ≤ 57
    · by_cases a3 : c - 48 < lim
      · have HF := hide (isDB_yes ⟨a1, a2, a3⟩)
        go_enter Tryz.func78, Tryz.ntmps78
        go_wp2_with fail
        go_ret
        exact ⟨by rw [unhide HF]; rfl, rfl⟩
      · have HF := hide (isDB_no (c := c) (lim := lim) (by omega))
        have a3' : decide (c - 48 < lim) = false := by simpa using a3
        go_enter Tryz.func78, Tryz.ntmps78
        go_wp2_with fail
        go_ret
        exact ⟨by rw [unhide HF]; rfl, rfl⟩
    · have HF := hide (isDB_no (c := c) (lim := lim) (by omega))
      have a2' : decide (c ≤ 57) = false := by simpa using a2
      go_enter Tryz.func78, Tryz.ntmps78
      go_wp2_with fail
      go_ret
      exact ⟨by rw [unhide HF]; rfl, rfl⟩
  · have HF := hide (isDB_no (c := c) (lim := lim) (by omega))
    have a1' : decide (48 ≤ c) = false := by simpa using a1
    go_enter Tryz.func78, Tryz.ntmps78
    go_wp2_with fail
    go_ret
    exact ⟨by rw [unhide HF]; rfl, rfl⟩

set_option maxHeartbeats 400000 in
theorem digitAt_any (w : World) (s : ByteArray) (k : Nat) (lim : Int) :
    Calls Tryz.prog 71 #[.string s, .int .i64 (k : Int), .int .i64 lim] w fun e w' => e = .returned (.tuple #[.int .i64 (digV s k lim), .bool (digB s k lim)]) ∧ w' = w := by
  have a0 : decide ((k : Int) < 0) = false := by simp
  by_cases hk : k < s.size
  · have hbq := bt_eq s k hk
    have ⟨hb0, hb1⟩ := bt_bd s k
    have HB := hide (digB_yes (lim := lim) hk)
    generalize hcc : bt s k = c at *
    have HCC := hide hcc
    clear hcc
    have a1 : decide ((s.size : Int) ≤ (k : Int)) = false := by simp; omega
    have hk' : (k : Int) < (s.size : Int) := by omega
    cases hd : isDB c lim
    · have HF := hide (show digV s k lim = 0 by unfold digV; rw [unhide HB, hd]; simp)
      go_enter Tryz.func71, Tryz.ntmps71
      go_wp2_with fail
      refine (isDigit_any _ _ _ hb0 hb1).mono ?_
      rintro e w' ⟨rfl, rfl⟩
      go_wp2_with fail
      go_ret2
      exact ⟨by rw [unhide HF, unhide HB, hd]; rfl, rfl⟩
    · have ⟨g1, g2, g3⟩ := (isDB_iff c lim).1 hd
      have HF := hide (show digV s k lim = c - 48 by unfold digV; rw [unhide HB, hd, unhide HCC]; simp)
      go_enter Tryz.func71, Tryz.ntmps71
      go_wp2_with fail
      refine (isDigit_any _ _ _ hb0 hb1).mono ?_
      rintro e w' ⟨rfl, rfl⟩
      go_wp2_with fail
      go_ret2
      exact ⟨by rw [unhide HF, unhide HB, hd]; rfl, rfl⟩
  · have HB := hide (digB_no (lim := lim) hk)
    have HF := hide (show digV s k lim = 0 by unfold digV; rw [unhide HB]; simp)
    have a1 : decide ((s.size : Int) ≤ (k : Int)) = true := by simp; omega
    go_enter Tryz.func71, Tryz.ntmps71
    go_wp2_with fail
    go_ret2
    exact ⟨by rw [unhide HF, unhide HB]; rfl, rfl⟩

theorem digitAt_int (w : World) (s : ByteArray) (a lim : Int) (k : Nat) (h : a = (k : Int)) :
    Calls Tryz.prog 71 #[.string s, .int .i64 a, .int .i64 lim] w fun e w' => e = .returned (.tuple #[.int .i64 (digV s k lim), .bool (digB s k lim)]) ∧ w' = w := by
  subst h; exact digitAt_any w s k lim

end Go.Proofs.YtfcflnnleadpkaaGreat

namespace Go.Proofs.YtfcflnnleadpkaaGreat
open Go.RowKit

theorem info_lat : (Tryz.prog.info? 46).map (fun i => (i.zero, i.size)) = some (some (.agg (latC 0 0 0 noT)), 132) := by kernel_rfl
theorem zero_lat : ∀ w, (zeroValue 46).run Tryz.prog w = .ok (.agg (latC 0 0 0 noT)) w := (zero_of_info info_lat).1
theorem size_lat : (Tryz.prog.info? 46).map (·.size) = some 132 := (zero_of_info info_lat).2

theorem store_arr {t : TypeId} {m : Nat} (hm : (Tryz.prog.info? t).map (·.size) = some m) (w : World) (g : Nat) (C C' : Array Value) (h1 : C.size = m) (h2 : C'.size = m) (ha : C'.all (·.oneCell') = true) (hg : w.heap[g]? = some (.cells C t (0, 0))) :
    Sem.run Tryz.prog (storeCells ⟨g, 0, none⟩ C'.toList) w = .ok () (w.setRow g C') := by
  have h := run_storeVar_row (P := Tryz.prog) w g t t _ C' hg (by rw [h2]; exact hm) (by rw [h1, h2]) ha
  cases hq : Tryz.prog.info? t with
  | none => simp [hq] at hm
  | some i =>
    have hs : i.size = m := by simpa [hq] using hm
    simpa [storeVar, sizeOf, typeInfo, hq, Value.cells, hs, h2] using h
theorem store_lat (w : World) (g : Nat) (e p n e' p' n' : Int) (R R' : Nat → Nat → Bool) (hg : w.heap[g]? = some (.cells (latC e p n R) 46 (0, 0))) :
    Sem.run Tryz.prog (storeCells ⟨g, 0, none⟩ (latC e' p' n' R').toList) w = .ok () (w.setRow g (latC e' p' n' R')) :=
  store_arr size_lat w g _ _ (latC_size _ _ _ _) (latC_size _ _ _ _) (latC_all _ _ _ _) hg
theorem store_latJ (w : World) (g : Nat) (e p n e' p' n' : Int) (R R' : Nat → Nat → Bool) (J : Nat → Nat → Int) (z : Int) (hg : w.heap[g]? = some (.cells (latC e p n R) 46 (0, 0))) :
    Sem.run Tryz.prog (storeCells ⟨g, 0, none⟩ (latJ e' p' n' R' J z).toList) w = .ok () (w.setRow g (latJ e' p' n' R' J z)) :=
  store_arr size_lat w g _ _ (latC_size _ _ _ _) (latJ_size _ _ _ _ _ _) (latJ_all _ _ _ _ _ _) hg
theorem ret_lat {fn : Func} {k : Tmp} (h : fn.results = #[.cell k 46]) (tmps : Array Value) (w : World) (g : Nat) (e p n : Int) (R : Nat → Nat → Bool)
    (hp : tmps.getD k undef = .pointer (some ⟨g, 0, none⟩)) (hg : w.heap[g]? = some (.cells (latC e p n R) 46 (0, 0))) :
    (results fn tmps).run Tryz.prog w = .ok (.agg (latC e p n R)) w :=
  results_cell_row h tmps w g _ _ _ _ hp hg Tryz.underlying46 rfl (by rw [latC_size]; exact size_lat)
theorem ret_latJ {fn : Func} {k : Tmp} (h : fn.results = #[.cell k 46]) (tmps : Array Value) (w : World) (g : Nat) (e p n : Int) (R : Nat → Nat → Bool) (J : Nat → Nat → Int) (z : Int)
    (hp : tmps.getD k undef = .pointer (some ⟨g, 0, none⟩)) (hg : w.heap[g]? = some (.cells (latJ e p n R J z) 46 (0, 0))) :
    (results fn tmps).run Tryz.prog w = .ok (.agg (latJ e p n R J z)) w :=
  results_cell_row h tmps w g _ _ _ _ hp hg Tryz.underlying46 rfl (by rw [latJ_size]; exact size_lat)

set_option maxHeartbeats 400000 in
set_option maxRecDepth 100000 in
theorem noOrder_any (w : World) (p : Int) :
    Calls Tryz.prog 72 #[.int .i64 p] w fun e w' => e = .returned (.agg (latC 2 p 0 noT)) ∧ Below w.heap.size w w' := by
  have hz := zero_lat
  have z0 := latC_size 0 0 0 noT
  have z1 := latC_size 2 0 0 noT
  have s0 := latC_set0 0 2 0 0 noT
  have s1 := latC_set1 2 0 p 0 noT
  have hst := store_lat (w.alloc (.cells (latC 0 0 0 noT) 46)) w.heap.size 0 0 0 2 p 0 noT noT (heap_alloc_last w _)
  rw [World.setRow_alloc_new] at hst
  go_enter Tryz.func72, Tryz.ntmps72
  go_wp2_with fail
  refine bodyPost_ret (v := .agg (latC 2 p 0 noT)) (ret_lat Tryz.results72 _ _ w.heap.size _ _ _ _ rfl (heap_alloc_last w _)) rfl ⟨rfl, ?_⟩
  exact (Below.refl _ _).alloc (Nat.le_refl _) _

end Go.Proofs.YtfcflnnleadpkaaGreat
