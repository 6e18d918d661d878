import Derived.Test.YtfcflnnleadpkaaGreatFjJ
import Derived.Test.YtfcflnnleadpkaaGreatYaJ
import Derived.Deep.LoopGhost
namespace Go.Proofs.YtfcflnnleadpkaaGreat
open Go.RowKit
variable {D : FD} {w : World} {st : WS} {f : Nat}

/-- The program of a flow, as the document's side has it. -/
def dE (D : FD) : Env := { pE D.R D.s D.n with nv := D.nv, np := D.np, main := (D.S 0).toNat, P := fun k => D.S (k + 1) }
/-- A flow whose program is whole. -/
structure GOk (D : FD) (f : Nat) : Prop where
  O : FOk D
  V : VOk D
  Q : Parts (dE D) f
  m0 : D.S 0 = ((dE D).main : Int)
  tm : tbS (bt D.s) D.nv D.n D.np D.T f (dE D).main
  tp : ∀ k, k < D.np → tbS (bt D.s) D.nv D.n D.np D.T f (D.S (k + 1)).toNat
theorem GOk.exp (G : GOk D f) : ∀ f st, InR D.n D.nv D.np st → ExOk D st f := fun f _ hr => fExpr G.O hr f
theorem GOk.thr (G : GOk D f) : ∀ f st, InR D.n D.nv D.np st → ThOk D st f := fun f _ hr => fThrow G.O hr (fun f => fExpr G.O hr f) f
theorem GOk.dem (G : GOk D f) : DmOk D f := fDemand G.O G.V G.exp G.thr f

set_option maxHeartbeats 2000000 in
set_option maxRecDepth 100000 in
theorem fAll (G : GOk D f) (hr : InR D.n D.nv D.np st) (h : Fl D w st) :
    Calls Tryz.prog 49 #[.pointer (some ⟨D.b, 0, none⟩)] w fun e w' => e = .returned (.tuple #[]) ∧ Fl D w' (pA (dE D) f st D.np) ∧ Kf D.b w w' := by
  have k1 := h.bo G.O.A
  have p0 := h.ps (k := 0) (by omega)
  rw [G.m0] at p0
  simp only [Nat.add_zero] at p0
  obtain ⟨j0, hj0⟩ := G.Q.main
  have HJ0 := hide hj0
  clear hj0
  have HA := hide (fun k hk => (pA_low (V' := st.V) (X' := st.X) (T' := st.T) (E := dE D) G.O.A G.Q hr k hk).1)
  have HGD := hide G.dem
  have HGT := hide G.thr
  go_enter Tryz.func49, Tryz.ntmps49
  go_wp2_with fail
  have hb0 := bot_lt (R := D.R) G.O.A.n1
  go_region_with (go_at_call 84; refine ((unhide HGD).at rfl h.drew hr (unhide HJ0) G.tm hb0).mono ?_; rintro e w1 ⟨rfl, hf1, hk1⟩; have HF1 := hide (show Fl D w1 (pA (dE D) f st 0) from hf1); have HK1 := hide (((Kf.refl D.b w).drewN 1).trans hk1); clear hf1 hk1)
  all_goals
    clear k1 p0
    go_wp2_with fail
    go_loopw [2] (fun d wr => ∃ k : Nat, k ≤ D.np ∧ d = .int .i64 (k : Int) ∧ Fl D wr (pA (dE D) f st k) ∧ Kf D.b w wr) (fun d _ => D.np - (intOf d).toNat)
    case atStart => exact ⟨0, Nat.zero_le _, rfl, unhide HF1, unhide HK1⟩
    case round =>
      obtain ⟨k, hk, rfl, hf, hkf⟩ := hrel
      have kp := hf.cp
      have HF := hide hf
      have HK := hide hkf
      clear hkf
      by_cases hlt : k < D.np
      · have hr1 := unhide HA k hk
        have hn4 := G.O.np
        have hk4 : k < 4 := by omega
        have hk4' : (k : Int) < 4 := by omega
        have hk5 : (k : Int) + 1 < 5 := by omega
        obtain ⟨m, j, em, hj⟩ := G.Q.proc k hlt
        have ps := hf.ps (k := k + 1) (by omega)
        have em2 : D.S (k + 1) = (m : Int) := em
        rw [em2] at ps
        have HTP := hide (show tbS (bt D.s) D.nv D.n D.np D.T f m by have := G.tp k hlt; rw [em2] at this; exact this)
        have HJ := hide hj
        have px := hf.lx (k := k) hk4
        have HN := hide (show pA (dE D) f st (k + 1) = raT D.R D.n (pS (bt D.s) D.R D.n (fixV (bt D.s) D.n) f m ((pA (dE D) f st k).X k) (pA (dE D) f st k)) k (wd (bt D.s) D.R D.n (pS (bt D.s) D.R D.n (fixV (bt D.s) D.n) f m ((pA (dE D) f st k).X k) (pA (dE D) f st k)).V (pS (bt D.s) D.R D.n (fixV (bt D.s) D.n) f m ((pA (dE D) f st k).X k) (pA (dE D) f st k)).T f m ((pA (dE D) f st k).X k)).2.1 by
          show raT _ _ _ _ _ = _
          rw [show ((dE D).P k).toNat = m by rw [em]; rfl]; rfl)
        clear em em2 hj hf
        generalize pA (dE D) f st k = s1 at *
        have hx := hr1.X k hlt
        obtain ⟨r2, _, _⟩ := pS_low (fx := fixV (bt D.s) D.n) (c := bt D.s) G.O.A f m (s1.X k) j s1 (unhide HJ) hx hr1
        have a2 := (wd_ok (c := bt D.s) G.O.A.L G.O.A.n1 r2.V r2.T f m (s1.X k) j (unhide HJ) hx).2.1
        go_wp2_with fail
        refine ((unhide HGD).at rfl (unhide HF) hr1 (unhide HJ) (unhide HTP) hx).mono ?_
        rintro e w2 ⟨rfl, hf2, hk2⟩
        have HF2 := hide hf2
        have HK2 := hide ((unhide HK).trans hk2)
        clear hf2 hk2 ps px kp
        generalize s1.X k = x at *
        generalize pS (bt D.s) D.R D.n (fixV (bt D.s) D.n) f m x s1 = s2 at *
        go_wp2_with fail
        refine ((unhide HGT f s2 r2).at rfl (unhide HF2) (unhide HJ) (unhide HTP) hx).mono ?_
        rintro e w3 ⟨rfl, hb3⟩
        have hf3 := (unhide HF2).below hb3
        have HK3 := hide ((unhide HK2).trans (Kf.of_below hb3))
        have pt := hf3.lt (k := k) hk4
        have HF3 := hide hf3
        clear hb3 hf3
        have hT := r2.T k hlt
        generalize (wd (bt D.s) D.R D.n s2.V s2.T f m x).2.1 = t at *
        go_wp2_with fail
        go_region_with (go_at_call 86; refine (fRaise G.O (unhide HF3).drew hT a2).mono ?_; rintro e w4 ⟨rfl, hf4, hk4⟩; have HF4 := hide hf4; have HK4 := hide (((unhide HK3).drewN 1).trans hk4); have pt2 := hf4.lt (k := k) (by omega); have zt2 := hf4.fz (1058 + k); clear hf4 hk4)
        all_goals
          go_wp2_with fail
          go_roundw
          case rel =>
            refine ⟨k + 1, by omega, by go_num, ?_, (unhide HK4).setCell _ _ (unhide HF4)⟩
            have h9 := (unhide HF4).setT (x := jn D.R D.n (s2.T k) t) (show k < 4 by omega)
            rw [(raF_V (D := D) (st := s2)).2.2] at h9
            rw [unhide HN, raT_set]
            exact h9
          case measure => simp [intOf]; omega
      · have ek : k = D.np := by omega
        subst ek
        go_wp2_with fail
        go_end0
        exact ⟨rfl, unhide HF, unhide HK⟩

theorem Kf.setAny {b : Nat} {w w' : World} (h : Kf b w w') (j : Nat) (v : Value) : Kf b w (w'.setCell ⟨b, j, none⟩ v) :=
  ⟨h.os, h.tape, h.output, by rw [World.size_setCell]; exact h.size, fun k h1 h2 => (Below.heap_setCell w' _ v k h2).trans (h.block k h1 h2)⟩
theorem LInv.top (G : GOk D f) : mH D.R D.n D.nv D.np st ≤ 128 := mH_top (E := dE D) G.O.n8 G.O.nv G.O.np

set_option maxHeartbeats 2000000 in
set_option maxRecDepth 100000 in
theorem fLoop (G : GOk D f) (hB : ∀ w st, Fl D w st → Calls Tryz.prog 48 #[.pointer (some ⟨D.b, 0, none⟩)] w fun e w' => e = .returned (.tuple #[]) ∧ (∃ st', Fl D w' st' ∧ LInv (dE D) f { st' with ra := true }) ∧ Kf D.b w w') (h : Fl D w st) :
    Calls Tryz.prog 22 #[.pointer (some ⟨D.b, 0, none⟩)] w fun e w' => e = .returned (.tuple #[]) ∧ (∃ st', Fl D w' st' ∧ LInv (dE D) f st' ∧ st'.ra = false) ∧ Kf D.b w w' := by
  have HB := hide hB
  clear hB
  have HTop := hide (fun st : WS => (LInv.top (st := st) G))
  go_enter Tryz.func22, Tryz.ntmps22
  go_wp2_with fail
  refine (unhide HB w st h).mono ?_
  rintro e w1 ⟨rfl, ⟨s1, hf1, hl1⟩, hk1⟩
  have HF1 := hide (hf1.setR true)
  have HK1 := hide (hk1.setCell 1062 (.bool true) hf1)
  have HL1 := hide hl1
  have kr := hf1.ra
  have zr := hf1.fz 1062
  clear hf1 hk1 hl1
  go_wp2_with fail
  clear kr zr
  go_loopg [] 129 (fun g wr => ∃ (s : WS) (q : Nat), q = g ∧ Fl D wr s ∧ LInv (dE D) f s ∧ Kf D.b w wr ∧ (s.ra = true → 129 ≤ mH D.R D.n D.nv D.np s + q))
  case atStart => exact ⟨_, 129, rfl, unhide HF1, unhide HL1, unhide HK1, fun _ => by omega⟩
  case round =>
    obtain ⟨s, q, hq, hf, hl, hkf, hm⟩ := hrel
    have HQ := hide hq
    clear hq
    have kr := hf.ra
    have zr := hf.fz 1062
    have k0 := hf.c0
    have k1 := hf.c1
    have z0 := hf.fz 0
    have z1 := hf.fz 1
    have HF := hide hf
    have HL := hide hl
    have HK := hide hkf
    have HM := hide hm
    clear hf hl hkf hm
    cases hra : s.ra
    · rw [hra] at kr
      go_wp2_with fail
      go_end0
      exact ⟨rfl, ⟨s, unhide HF, unhide HL, hra⟩, unhide HK⟩
    · rw [hra] at kr
      have HS := hide ((unhide HL).step G.O.A G.Q)
      have HF2 := hide (((unhide HF).setR false).setB (b := -1) (e := 0) (p := 0) rfl rfl)
      have HR := hide (show InR D.n D.nv D.np (rsW s) from ⟨(unhide HL).inr.V, (unhide HL).inr.X, (unhide HL).inr.T⟩)
      have HK2 := hide ((((unhide HK).setAny 1062 (.bool false)).setAny 0 (.int .i64 0)).setAny 1 (.int .i64 0))
      go_wp2_with fail
      refine (fAll G (unhide HR) (unhide HF2)).mono ?_
      rintro e w2 ⟨rfl, hf2, hk2⟩
      have HF3 := hide (show Fl D w2 (pStep (dE D) f s) from hf2)
      have HK3 := hide ((unhide HK2).trans hk2)
      clear hf2 hk2
      go_wp2_with fail
      have hm := unhide HM hra
      have ht := unhide HTop s
      go_roundg (q - 1)
      case measure => have := unhide HQ; omega
      case rel =>
        refine ⟨_, _, rfl, unhide HF3, (unhide HS).1, unhide HK3, fun hra2 => ?_⟩
        rcases (unhide HS).2 with e | e
        · rw [e] at hra2; cases hra2
        · have e' : mH D.R D.n D.nv D.np s < mH D.R D.n D.nv D.np (pStep (dE D) f s) := e
          omega

end Go.Proofs.YtfcflnnleadpkaaGreat

namespace Go.Proofs.YtfcflnnleadpkaaGreat
open Go.RowKit

/-! The program's own run, in memory. -/

/-- The cells of a run, by index. -/
def rnF (P : Nat → Value) (iv : Value) (tk V : Nat → Nat) (fu ca : Nat) (ov : Value) (k : Nat) : Value :=
  if k < 912 then P k else if k = 912 then iv else if k < 921 then .int .i64 (tk (k - 913) : Int) else if k < 929 then .int .i64 (V (k - 921) : Int)
  else if k = 929 then .int .i64 (fu : Int) else if k = 930 then .int .i64 (ca : Int) else ov
/-- What stays of a run. -/
structure RD where
  b : Nat
  D : FD
  iv : Value
  inp : Nat → List Nat
  w0 : World
def pgF (D : FD) : Nat → Value := prgF 0 0 D.s D.n D.nv D.np D.S D.T D.cv
def rnA (G : RD) (ov : Value) (st : RS) (k : Nat) : Array Value := rowF (rnF (pgF G.D) G.iv st.tk st.V st.fuel k ov) 932
structure PAt (G : RD) (w : World) (ov : Value) (st : RS) (k : Nat) : Prop where
  rn : w.heap[G.b]? = some (.cells (rnA G ov st k) 60 (0, 0))
  out : w.ownsRow G.w0.heap.size 85 2 ov st.out.length (evC st.out)
  bel : Below G.w0.heap.size G.w0 w
structure QK (G : RD) (F : Nat) : Prop where
  K : GOk G.D F
  b0 : G.w0.heap.size ≤ G.b
  I : InpR G.w0 G.iv G.D.n G.inp
  ib : ∀ d, G.D.n ≤ d → G.inp d = []
def exD (G : RD) (F g i k : Nat) (st : RS) : RS × Nat := exS (bt G.D.s) G.inp (fun k => (G.D.S (k + 1)).toNat) F g i k st

variable {G : RD} {F : Nat} {w w' w1 wa : World} {ov : Value} {st : RS} {k : Nat}

theorem rnF_pg {P : Nat → Value} {iv ov : Value} {tk V : Nat → Nat} {fu ca k : Nat} (h : k < 912) : rnF P iv tk V fu ca ov k = P k := by unfold rnF; rw [if_pos h]
theorem rnF_tk {P : Nat → Value} {iv ov : Value} {tk V : Nat → Nat} {fu ca k : Nat} (h : k < 8) : rnF P iv tk V fu ca ov (913 + k) = .int .i64 (tk k : Int) := by
  unfold rnF; rw [if_neg (by omega), if_neg (by omega), if_pos (by omega), show 913 + k - 913 = k by omega]
theorem rnF_va {P : Nat → Value} {iv ov : Value} {tk V : Nat → Nat} {fu ca k : Nat} (h : k < 8) : rnF P iv tk V fu ca ov (921 + k) = .int .i64 (V k : Int) := by
  unfold rnF; rw [if_neg (by omega), if_neg (by omega), if_neg (by omega), if_pos (by omega), show 921 + k - 921 = k by omega]

theorem PAt.lt (h : PAt G w ov st k) : G.b < w.heap.size := (Array.getElem?_eq_some_iff.1 h.rn).1
theorem PAt.tx (h : PAt G w ov st k) : w.cell? ⟨G.b, 2, none⟩ = some (.string G.D.s) := (rowF_cell h.rn (by omega)).trans rfl
theorem PAt.cv (h : PAt G w ov st k) : w.cell? ⟨G.b, 4, none⟩ = some (.int .i64 (G.D.nv : Int)) := (rowF_cell h.rn (by omega)).trans rfl
theorem PAt.ps (h : PAt G w ov st k) {j : Nat} (hj : j < 5) : w.cell? ⟨G.b, 6 + j, none⟩ = some (.int .i64 (G.D.S j)) := by
  rw [rowF_cell h.rn (by omega), rnF_pg (by omega)]
  unfold pgF prgF
  rw [if_neg (by omega), if_neg (by omega), if_neg (by omega), if_neg (by omega), if_neg (by omega), if_neg (by omega), if_pos (by omega), show 6 + j - 6 = j by omega]
theorem PAt.pt (h : PAt G w ov st k) {i j : Nat} (hi : i < 300) (hj : j < 3) : w.cell? ⟨G.b, 11 + i * 3 + j, none⟩ = some (.int .i64 (G.D.T i j)) := by
  rw [rowF_cell h.rn (by omega), rnF_pg (by omega)]
  unfold pgF prgF
  rw [if_neg (by omega), if_neg (by omega), if_neg (by omega), if_neg (by omega), if_neg (by omega), if_neg (by omega), if_neg (by omega), if_pos (by omega), show (11 + i * 3 + j - 11) / 3 = i by omega, show (11 + i * 3 + j - 11) % 3 = j by omega]
theorem PAt.ci (h : PAt G w ov st k) : w.cell? ⟨G.b, 912, none⟩ = some G.iv := (rowF_cell h.rn (by omega)).trans rfl
theorem PAt.ck (h : PAt G w ov st k) {d : Nat} (hd : d < 8) : w.cell? ⟨G.b, 913 + d, none⟩ = some (.int .i64 (st.tk d : Int)) := by rw [rowF_cell h.rn (by omega), rnF_tk hd]
theorem PAt.ca (h : PAt G w ov st k) {v : Nat} (hv : v < 8) : w.cell? ⟨G.b, 921 + v, none⟩ = some (.int .i64 (st.V v : Int)) := by rw [rowF_cell h.rn (by omega), rnF_va hv]
theorem PAt.cf (h : PAt G w ov st k) : w.cell? ⟨G.b, 929, none⟩ = some (.int .i64 (st.fuel : Int)) := (rowF_cell h.rn (by omega)).trans rfl
theorem PAt.cc (h : PAt G w ov st k) : w.cell? ⟨G.b, 930, none⟩ = some (.int .i64 (k : Int)) := (rowF_cell h.rn (by omega)).trans rfl
theorem PAt.co (h : PAt G w ov st k) : w.cell? ⟨G.b, 931, none⟩ = some ov := (rowF_cell h.rn (by omega)).trans rfl
theorem PAt.fz (h : PAt G w ov st k) (j : Nat) : w.frozen? ⟨G.b, j, none⟩ = false := frozen_of_row w _ j _ _ h.rn
theorem PAt.ob (h : PAt G w ov st k) {g : Nat} (hg : ov.ownBlock = some g) : G.w0.heap.size ≤ g ∧ g < w.heap.size := h.out.lt g hg
theorem PAt.ot (h : PAt G w ov st k) {g : Nat} (hg : ov.ownBlock = some g) : ∃ cur, w.heap[g]? = some (.cells cur 85 (0, 0)) := by
  rcases h.out.2 with ⟨e, _⟩ | ⟨g', cap, cur, e, _, hc, _⟩
  · rw [e] at hg; cases hg
  · rw [e] at hg
    simp [Value.ownBlock] at hg
    subst hg
    exact ⟨cur, hc⟩
theorem PAt.on (h : PAt G w ov st k) {g : Nat} (hg : ov.ownBlock = some g) : g ≠ G.b := by
  obtain ⟨cur, hc⟩ := h.ot hg
  exact ne_of_types hc h.rn (by decide)
theorem PAt.drewN (h : PAt G w ov st k) (q : Nat) : PAt G (w.drewN q) ov st k := ⟨h.rn, h.out, below_drewN2 h.bel q⟩
theorem PAt.drew (h : PAt G w ov st k) : PAt G w.drew ov st k := h.drewN 1
theorem PAt.below (h : PAt G w ov st k) (hb : Below w.heap.size w w') : PAt G w' ov st k :=
  ⟨(hb.block _ h.lt).trans h.rn, ownsRow_keep2 h.out (fun g hg => hb.block g (h.ob hg).2), h.bel.trans (hb.mono h.bel.size)⟩
theorem PAt.alloc (h : PAt G w ov st k) (X : Obj) : PAt G (w.alloc X) ov st k := h.below ((Below.refl _ _).alloc (Nat.le_refl _) X)
/-- A cell of the run turned. -/
theorem PAt.setC (b0 : G.w0.heap.size ≤ G.b) (h : PAt G w ov st k) {j k' : Nat} {v : Value} {st' : RS} (ho : st'.out = st.out) (he : (rnA G ov st k).setIfInBounds j v = rnA G ov st' k') : PAt G (w.setCell ⟨G.b, j, none⟩ v) ov st' k' := by
  have hx : ∀ b, b ≠ G.b → (w.setCell ⟨G.b, j, none⟩ v).heap[b]? = w.heap[b]? := fun b hb => Below.heap_setCell w _ _ b hb
  refine ⟨?_, ?_, h.bel.trans ⟨rfl, rfl, rfl, by simp [World.setCell], fun b hb => hx b (by omega)⟩⟩
  · rw [setCell_eq_setRow w G.b j _ _ _ _ h.rn, he]; exact setRow_heap w G.b _ _ _ _ h.rn
  · rw [ho]; exact ownsRow_keep2 h.out (fun g hg => hx _ (h.on hg))
set_option maxRecDepth 100000 in
theorem PAt.setV (b0 : G.w0.heap.size ≤ G.b) (h : PAt G w ov st k) {v x : Nat} (hv : v < 8) : PAt G (w.setCell ⟨G.b, 921 + v, none⟩ (.int .i64 (x : Int))) ov { st with V := setF st.V v x } k := by
  refine h.setC b0 (st' := { st with V := setF st.V v x }) rfl (rowF_set ?_ (fun j hj hne => ?_))
  · rw [rnF_va hv]
    show Value.int .i64 ((setF st.V v x v : Nat) : Int) = _
    unfold setF; rw [if_pos rfl]
  · show rnF _ _ _ _ _ _ _ _ = rnF _ _ _ (setF st.V v x) _ _ _ _
    unfold rnF
    by_cases h1 : j < 921
    · repeat' split
      all_goals first | omega | rfl
    · by_cases h2 : j < 929
      · rw [if_neg (by omega), if_neg (by omega), if_neg (by omega), if_pos (by omega), if_neg (by omega), if_neg (by omega), if_neg (by omega), if_pos (by omega)]
        unfold setF; rw [if_neg (by omega)]
      · repeat' split
        all_goals first | omega | rfl
set_option maxRecDepth 100000 in
theorem PAt.setTk (b0 : G.w0.heap.size ≤ G.b) (h : PAt G w ov st k) {d x : Nat} (hd : d < 8) : PAt G (w.setCell ⟨G.b, 913 + d, none⟩ (.int .i64 (x : Int))) ov { st with tk := setF st.tk d x } k := by
  refine h.setC b0 (st' := { st with tk := setF st.tk d x }) rfl (rowF_set ?_ (fun j hj hne => ?_))
  · rw [rnF_tk hd]
    show Value.int .i64 ((setF st.tk d x d : Nat) : Int) = _
    unfold setF; rw [if_pos rfl]
  · show rnF _ _ _ _ _ _ _ _ = rnF _ _ (setF st.tk d x) _ _ _ _ _
    unfold rnF
    by_cases h1 : j < 913
    · repeat' split
      all_goals first | omega | rfl
    · by_cases h2 : j < 921
      · rw [if_neg (by omega), if_neg (by omega), if_pos (by omega), if_neg (by omega), if_neg (by omega), if_pos (by omega)]
        unfold setF; rw [if_neg (by omega)]
      · repeat' split
        all_goals first | omega | rfl
theorem PAt.setFu (b0 : G.w0.heap.size ≤ G.b) (h : PAt G w ov st k) {x : Nat} : PAt G (w.setCell ⟨G.b, 929, none⟩ (.int .i64 (x : Int))) ov { st with fuel := x } k := by
  refine h.setC b0 (st' := { st with fuel := x }) rfl (rowF_set rfl (fun j hj hne => ?_))
  show rnF _ _ _ _ _ _ _ _ = rnF _ _ _ _ x _ _ _
  unfold rnF
  repeat' split
  all_goals first | omega | rfl
theorem PAt.setCa (b0 : G.w0.heap.size ≤ G.b) (h : PAt G w ov st k) {x : Nat} : PAt G (w.setCell ⟨G.b, 930, none⟩ (.int .i64 (x : Int))) ov st x := by
  refine h.setC b0 (st' := st) rfl (rowF_set rfl (fun j hj hne => ?_))
  unfold rnF
  repeat' split
  all_goals first | omega | rfl
set_option maxRecDepth 100000 in
/-- One event more. -/
theorem PAt.push {gg cap d x : Nat} (b0 : G.w0.heap.size ≤ G.b) (h : PAt G w ov st k) (hwa : wa.heap.size = w.heap.size + 1) (hab : Below w.heap.size w wa)
    (hown1 : w1.ownsRow G.w0.heap.size 85 2 (.slice (some ⟨gg, 0, none⟩) (st.out.length + 1) cap) (st.out.length + 1) (evC st.out ++ [.int .i64 (d : Int), .int .i64 (x : Int)]))
    (hgrow : wa.grownBy w1 ov.ownBlock) :
    PAt G (w1.setCell ⟨G.b, 931, none⟩ (.slice (some ⟨gg, 0, none⟩) (st.out.length + 1) cap)) (.slice (some ⟨gg, 0, none⟩) (st.out.length + 1) cap) { st with out := st.out ++ [(d, x)] } k := by
  have hrb := h.lt
  have hr1 : w1.heap[G.b]? = some (.cells (rnA G ov st k) 60 (0, 0)) :=
    (hgrow.block G.b (by omega) (fun e => h.on e.symm rfl)).trans ((hab.block G.b hrb).trans h.rn)
  have hset : (rnA G ov st k).setIfInBounds 931 (.slice (some ⟨gg, 0, none⟩) (st.out.length + 1) cap) = rnA G (.slice (some ⟨gg, 0, none⟩) (st.out.length + 1) cap) { st with out := st.out ++ [(d, x)] } k := by
    refine rowF_set rfl (fun j hj hne => ?_)
    unfold rnF
    repeat' split
    all_goals first | omega | rfl
  rw [setCell_eq_setRow w1 G.b _ _ _ _ _ hr1, hset]
  have ho : ∀ b, b ≠ G.b → (w1.setRow G.b (rnA G (.slice (some ⟨gg, 0, none⟩) (st.out.length + 1) cap) { st with out := st.out ++ [(d, x)] } k)).heap[b]? = w1.heap[b]? := fun b hb => setRow_other w1 G.b b _ hb
  refine ⟨setRow_heap w1 G.b _ _ _ _ hr1, ?_, ?_⟩
  · have e : evC (st.out ++ [(d, x)]) = evC st.out ++ [.int .i64 (d : Int), .int .i64 (x : Int)] := by rw [evC_app]; rfl
    show World.ownsRow _ _ _ _ _ (st.out ++ [(d, x)]).length (evC (st.out ++ [(d, x)]))
    rw [e, List.length_append]
    refine ownsRow_keep2 hown1 (fun g hg => ?_)
    simp [Value.ownBlock] at hg
    subst hg
    rcases hown1.2 with ⟨e2, _⟩ | ⟨g', cap', cur, e2, _, hc, _⟩
    · cases e2
    · injection e2 with e2 _ _
      injection e2 with e2
      injection e2 with e2 _ _
      subst e2
      exact ho _ (ne_of_types hc hr1 (by decide))
  · refine h.bel.trans ⟨hgrow.os.trans hab.os, hgrow.tape.trans hab.tape, hgrow.output.trans hab.output, ?_, fun b hb => ?_⟩
    · have := hgrow.size
      simp
      omega
    · have hlt : b < w.heap.size := by have := h.bel.size; omega
      refine (ho b (by omega)).trans ((hgrow.block b (by omega) (fun e => ?_)).trans (hab.block b hlt))
      have := (h.ob e.symm).1
      omega

theorem QK.inp (K : QK G F) : ∀ d x, x ∈ G.inp d → x < 65536 := by
  intro d x hx
  rcases Nat.lt_or_ge d G.D.n with hd | hd
  · exact K.I.lt d hd x hx
  · rw [K.ib d hd] at hx; simp at hx
theorem QK.ex (K : QK G F) (h : RunI G.D.n st) {g f i j : Nat} (hw : wfS (bt G.D.s) G.D.nv G.D.n G.D.np f i = (j, false)) (hf : f ≤ F) : RunI G.D.n (exD G F g i k st).1 := by
  refine h.of ?_ (exS_grow _ _ _ _)
  refine exS_sane (nv := G.D.nv) (np := G.D.np) K.inp (fun p hp => ?_) g f i j k st hw hf h.sane
  obtain ⟨m, j', e, hm⟩ := K.K.Q.proc p hp
  refine ⟨j', ?_⟩
  have e' : G.D.S (p + 1) = (m : Int) := e
  rw [e', show ((m : Int)).toNat = m by omega]
  exact hm

end Go.Proofs.YtfcflnnleadpkaaGreat
