import Derived.Test.YtfcflnnleadpkaaTnJ
import Derived.Test.YtfcflnnleadpkaaTmJ
import Derived.Deep.LoopGhost
import Derived.Deep.QuietTactic
import Derived.BigQuiet
import Derived.Test.YtfcflnnleadpkaaYbJ
import Derived.Test.YtfcflnnleadpkaaYfJ
namespace Go.Proofs.Ytfcflnnleadpkaa
open Go.RowKit
variable {E : Env} {w w' w0 w1 wa : World} {st : WS}

/-- The first k variables have the text's levels. -/
def fxB (E : Env) (V : Nat → Nat) : Nat → Bool
  | 0 => true
  | k + 1 => fxB E V k && decide (0 ≤ fixV (bt E.s) E.n k → (V k : Int) = fixV (bt E.s) E.n k)
theorem fxB_iff {V : Nat → Nat} : ∀ k, fxB E V k = true ↔ ∀ j, j < k → 0 ≤ fixV (bt E.s) E.n j → (V j : Int) = fixV (bt E.s) E.n j := by
  intro k
  induction k with
  | zero => simp [fxB]
  | succ k ih =>
    simp only [fxB, Bool.and_eq_true, decide_eq_true_eq]
    rw [ih]
    constructor
    · intro h j hj
      by_cases e : j = k
      · rw [e]; exact h.2
      · exact h.1 j (by omega)
    · intro h
      exact ⟨fun j hj => h j (by omega), h k (by omega)⟩
/-- Does the labelling fit? -/
def fitB (E : Env) (f : Nat) (st : WS) : Bool := fxB E st.V E.nv && (okT E f st.V st.X st.T E.np && decide (bdF E.R st.V st.X (allD E f st.V st.X st.T E.np) (-1) < 0))
theorem fitB_iff {f : Nat} : fitB E f st = true ↔ Fixd E st.V ∧ FitW E f st.V st.X st.T := by
  unfold fitB
  rw [Bool.and_eq_true, Bool.and_eq_true, fxB_iff, decide_eq_true_eq, ← fitW_iff]
  exact Iff.rfl

theorem At0.drewN (h : At0 E w st) (hn : 1 ≤ E.n) (q : Nat) : At0 E (w.drewN q) st := ⟨h.pg.keep hn (fun _ _ => rfl), h.lb, h.rv, h.rx, h.rt⟩

set_option maxHeartbeats 800000 in
set_option maxRecDepth 100000 in
theorem Fits_any {f : Nat} (L : Lattice E.n E.R) (hn : 1 ≤ E.n) (hn8 : E.n ≤ 8) (hnv : E.nv ≤ 8) (hnp : E.np ≤ 4) (hsz : E.s.size ≤ 300) (Q : Parts E f) (h : At0 E w st) (hr : InR E.n E.nv E.np st)
    (hsep : ∀ x low, w.heap.size ≤ x → Sep (wbE E x low)) (hB : E.B ≤ w.heap.size) :
    Calls Try.prog 26 #[.pointer (some ⟨E.pb, 0, none⟩), .pointer (some ⟨E.lb, 0, none⟩)] w fun e w' => e = .returned (.bool (fitB E f st)) ∧ Below E.B w w' := by
  have HA := hide h
  have HR := hide hr
  have HSEP := hide hsep
  obtain ⟨fa, fc, hfs⟩ := sl_form E.nv E.gf E.cf
  obtain ⟨pa, pc, hps⟩ := sl_form E.np E.gp E.cp
  obtain ⟨va, vc, hvs⟩ := sl_form E.nv E.gv E.cv
  obtain ⟨xa, xc, hxs⟩ := sl_form E.np E.gx E.cx
  obtain ⟨ta, tc, hts⟩ := sl_form E.np E.gt E.ct
  have qf := h.pg.cF
  have qp := h.pg.cPr
  have l0 : w.cell? ⟨E.lb, 0, none⟩ = some (sl E.nv E.gv E.cv) := by rw [cell_of_row w _ 0 _ _ _ h.lb]; rfl
  have l1 : w.cell? ⟨E.lb, 1, none⟩ = some (sl E.np E.gx E.cx) := by rw [cell_of_row w _ 1 _ _ _ h.lb]; rfl
  have l2 : w.cell? ⟨E.lb, 2, none⟩ = some (sl E.np E.gt E.ct) := by rw [cell_of_row w _ 2 _ _ _ h.lb]; rfl
  rw [hfs] at qf
  rw [hps] at qp
  rw [hvs] at l0
  rw [hxs] at l1
  rw [hts] at l2
  have HFS := hide hfs
  have HVS := hide hvs
  clear h hr hsep hfs hps hvs hxs hts
  go_enter Try.func26, Try.ntmps26
  go_wp2_with fail
  go_quiet (fail)
  go_wp2_with fail
  go_loopg [5] E.nv (fun g d wr => ∃ (k q : Nat), k + g = E.nv ∧ d = .int .i64 (k : Int) ∧ wr = w.drewN q ∧ fxB E st.V k = true)
  case atStart => exact ⟨0, nq, Nat.zero_add _, rfl, rfl, rfl⟩
  case round =>
    obtain ⟨k, q, hkg, rfl, rfl, hfx⟩ := hrel
    have HFX := hide hfx
    clear hfx
    by_cases hlt : k < E.nv
    · have hlt' : (k : Int) < (E.nv : Int) := by omega
      have e1 := unhide HFS
      have e2 := unhide HVS
      rw [sl_pos (by omega)] at e1 e2
      injection e1 with e1 _ e1c
      injection e2 with e2 _ e2c
      subst e1 e1c e2 e2c
      have f1 := (unhide HA).pg.fx.cell hlt
      have f2 : w.cell? ⟨E.gv, k, none⟩ = some (.int .i64 (st.V k : Int)) := (unhide HA).rv.cell hlt
      have HS := hide (show fxB E st.V (k + 1) = (fxB E st.V k && decide (0 ≤ fixV (bt E.s) E.n k → (st.V k : Int) = fixV (bt E.s) E.n k)) from rfl)
      have hw1 : Hid (Value.int .i64 ((k : Int) + 1) = Value.int .i64 ((k + 1 : Nat) : Int)) := hide (congrArg (Value.int .i64) (by omega))
      have HNO : Hid (fxB E st.V (k + 1) = false → fxB E st.V E.nv = false) := by
        intro hf
        cases he : fxB E st.V E.nv
        · rfl
        · have h1 := (fxB_iff (E := E) (V := st.V) E.nv).1 he
          have h2 := (fxB_iff (E := E) (V := st.V) (k + 1)).2 (fun j hj => h1 j (by omega))
          rw [hf] at h2; cases h2
      generalize fixV (bt E.s) E.n k = x at *
      generalize st.V k = y at *
      by_cases h0 : 0 ≤ x
      · have h0' : decide ((0 : Int) ≤ x) = true := by simpa using h0
        by_cases h1 : (y : Int) = x
        · have h1' : decide ((y : Int) = x) = true := by simpa using h1
          have HT := hide (show fxB E st.V (k + 1) = true by rw [unhide HS, unhide HFX]; simp [h1])
          subst h1
          go_wp2_with fail
          go_quiet (fail)
          go_wp2_with fail
          go_roundg (gk - 1)
          case measure => omega
          case rel => exact ⟨k + 1, q + nq, by omega, unhide hw1, rfl, unhide HT⟩
        · have h1' : decide ((y : Int) = x) = false := by simpa using h1
          have HT := hide (show fxB E st.V (k + 1) = false by rw [unhide HS, unhide HFX]; simp [h0, h1])
          go_wp2_with fail
          go_quiet (fail)
          go_wp2_with fail
          go_ret
          exact ⟨by unfold fitB; rw [unhide HNO (unhide HT)]; rfl, below_drewN2 (below_drewN2 (Below.refl _ _) _) _⟩
      · have h0' : decide ((0 : Int) ≤ x) = false := by simpa using h0
        have HT := hide (show fxB E st.V (k + 1) = true by rw [unhide HS, unhide HFX]; simp [h0])
        go_wp2_with fail
        go_quiet (fail)
        go_wp2_with fail
        go_roundg (gk - 1)
        case measure => omega
        case rel => exact ⟨k + 1, q + nq, by omega, unhide hw1, rfl, unhide HT⟩
    · have hke : k = E.nv := by omega
      have hlt' : decide ((k : Int) < (E.nv : Int)) = false := by simp; omega
      have HFN := hide (show fxB E st.V E.nv = true by rw [← hke]; exact unhide HFX)
      have HAW : Hid (At (wbE E w.heap.size false) ((w.drewN q).alloc (.cells #[.pointer (some ⟨E.pb, 0, none⟩), .pointer (some ⟨E.lb, 0, none⟩), .bool false, .bool false, .bool false, .int .i64 (-1)] 97)) false (rsW st)) := hide (((unhide HA).drewN hn q).walk hn false)
      have HK : Hid (EnvOk (wbE E w.heap.size false)) := hide ⟨unhide HSEP _ _ (Nat.le_refl _), L, hn, hn8, hsz, hnv, hnp⟩
      have HQ : Hid (Parts (wbE E w.heap.size false) f) := hide ⟨Q.main, Q.proc⟩
      go_wp2_with fail
      clear qf qp l0 l1 l2
      refine (All_any (unhide HK) (unhide HQ) _ (rsW st) (unhide HAW) ⟨(unhide HR).V, (unhide HR).X, (unhide HR).T⟩).mono ?_
      rintro e w4 ⟨rfl, hat, hfr⟩
      have HAW2 : Hid (allW (wbE E w.heap.size false) f (rsW st) = (okT E f st.V st.X st.T E.np, putB (rsW st) (bdF E.R st.V st.X (allD E f st.V st.X st.T E.np) (-1)))) := by
        have h1 := okT_same (E := wbE E w.heap.size false) (E' := E) ⟨rfl, rfl, rfl, rfl, rfl, rfl, rfl⟩ f st.V st.X st.T E.np
        have h2 := allD_same (E := wbE E w.heap.size false) (E' := E) ⟨rfl, rfl, rfl, rfl, rfl, rfl, rfl⟩ f st.V st.X st.T E.np
        have h3 := allTo_flat (E := wbE E w.heap.size false) (f := f) rfl (rsW st) E.np
        have h4 : (rsW st).V = st.V := rfl
        have h5 : (rsW st).X = st.X := rfl
        have h6 : (rsW st).T = st.T := rfl
        rw [h4, h5, h6, h1, h2] at h3
        exact h3
      rw [unhide HAW2] at hat
      rw [unhide HAW2]
      have c5 : w4.cell? ⟨w.heap.size, 5, none⟩ = some (.int .i64 (bdF E.R st.V st.X (allD E f st.V st.X st.T E.np) (-1))) := hat.cBad
      have HB4 : Hid (Below E.B w w4) := by
        have b4 : Below E.B (w.drewN q) w4 := hfr.below (unhide HK).S hB
        exact (below_drewN2 (Below.refl _ _) q).trans b4
      clear hat hfr
      have HFB := hide (show fitB E f st = (okT E f st.V st.X st.T E.np && decide (bdF E.R st.V st.X (allD E f st.V st.X st.T E.np) (-1) < 0)) by unfold fitB; rw [unhide HFN]; rfl)
      generalize bdF E.R st.V st.X (allD E f st.V st.X st.T E.np) (-1) = x at *
      simp only
      generalize okT E f st.V st.X st.T E.np = b at *
      cases b
      · go_wp2_with fail
        go_ret
        exact ⟨by rw [unhide HFB]; rfl, unhide HB4⟩
      · by_cases hx : x < 0
        · have hx' : decide (x < 0) = true := by simpa using hx
          go_wp2_with fail
          go_ret
          exact ⟨by rw [unhide HFB, hx']; rfl, unhide HB4⟩
        · have hx' : decide (x < 0) = false := by simpa using hx
          go_wp2_with fail
          go_ret
          exact ⟨by rw [unhide HFB, hx']; rfl, unhide HB4⟩

end Go.Proofs.Ytfcflnnleadpkaa

namespace Go.Proofs.Ytfcflnnleadpkaa
open Go.RowKit

theorem Fixd.same {E E' : Env} {V : Nat → Nat} (h : Same E E') (k : Fixd E V) : Fixd E' V := by
  intro j hj hf
  have e : fxE E = fxE E' := by unfold fxE; rw [h.s, h.n]
  have := k j (by rw [h.nv]; exact hj) (by rw [e]; exact hf)
  rw [e] at this
  exact this
theorem FitW.same {E E' : Env} {f : Nat} {V X T : Nat → Nat} (h : Same E E') (k : FitW E f V X T) : FitW E' f V X T := by
  refine ⟨fun d hd => ?_, fun j hj => ?_⟩
  · rw [← h.np, ← allD_same h] at hd
    have := k.dem d hd
    rw [h.R] at this
    exact this
  · have := k.thr j (by rw [h.np]; exact hj)
    rw [tdP_same h, h.R, h.n] at this
    exact this
/-- The labelling that a list says. -/
def lsW (L : Nat → Int) (nv np : Nat) : WS := lbS (spV L nv) (spX L nv np) (spT L nv np)
theorem lsW_V {L : Nat → Int} {nv np k : Nat} (h : k < nv) : (lsW L nv np).V k = (L k).toNat := by simp [lsW, lbS, spV, h]
theorem lsW_X {L : Nat → Int} {nv np k : Nat} (h : k < np) : (lsW L nv np).X k = (L (nv + 2 * k)).toNat := by simp [lsW, lbS, spX, h]
theorem lsW_T {L : Nat → Int} {nv np k : Nat} (h : k < np) : (lsW L nv np).T k = (L (nv + 2 * k + 1)).toNat := by simp [lsW, lbS, spT, h]
theorem spOk.inr {E : Env} {m : Nat} {L : Nat → Int} (h : spOk E m L) : InR E.n E.nv E.np (lsW L E.nv E.np) := by
  obtain ⟨h1, h2⟩ := h
  refine ⟨fun k hk => ?_, fun k hk => ?_, fun k hk => ?_⟩
  · rw [lsW_V hk]; have := h2 k (by omega); omega
  · rw [lsW_X hk]; have := h2 (E.nv + 2 * k) (by omega); omega
  · rw [lsW_T hk]; have := h2 (E.nv + 2 * k + 1) (by omega); omega
/-- A list that is below another. -/
theorem flF_le {R : Nat → Nat → Bool} {n nv np : Nat} {st : WS} {L : Nat → Int} (hL : ∀ i, i < nv + 2 * np → 0 ≤ L i) (hV : Bel R n nv st.V (lsW L nv np).V) (hX : Bel R n np st.X (lsW L nv np).X) (hT : Bel R n np st.T (lsW L nv np).T) :
    ∀ i, i < nv + 2 * np → ∃ y : Nat, L i = (y : Int) ∧ Le R n (flF st nv i) y := by
  intro i hi
  refine ⟨(L i).toNat, by have := hL i hi; omega, ?_⟩
  unfold flF
  by_cases h1 : i < nv
  · rw [if_pos h1, ← lsW_V (np := np) h1]; exact hV i h1
  · rw [if_neg h1]
    have hq : (i - nv) / 2 < np := by omega
    by_cases h2 : (i - nv) % 2 = 0
    · rw [if_pos h2]
      have := hX _ hq
      rw [lsW_X hq, show nv + 2 * ((i - nv) / 2) = i by omega] at this
      exact this
    · rw [if_neg h2]
      have := hT _ hq
      rw [lsW_T hq, show nv + 2 * ((i - nv) / 2) + 1 = i by omega] at this
      exact this
theorem least_pure {o s : ByteArray} {n : Nat} {E : Env} (hS : Same E (pE (cl o n) s n)) (K : Known o s n) {m : Nat} {L : Nat → Int} (hok : spOk E m L) (hf : fitB E (s.size + 1) (lsW L E.nv E.np) = true) :
    ckB o s n < 0 ∧ ∀ i, i < m → ∃ y : Nat, L i = (y : Int) ∧ Le (cl o n) n (flF (ckL o s n) (prNv s n) i) y := by
  obtain ⟨h1, h2⟩ := fitB_iff.1 hf
  have f1 := h1.same hS
  have f2 := h2.same hS
  have hin := hok.inr
  have en : E.n = n := hS.n
  have env : E.nv = prNv s n := hS.nv
  have enp : E.np = (prPs s n).length := hS.np
  obtain ⟨g1, g2, g3, g4⟩ := K.low.fit K.A K.Q (fun k hk => by rw [hS.nv.symm] at hk; have := hin.V k hk; rw [hS.n] at this; exact this) (fun k hk => by rw [hS.np.symm] at hk; have := hin.X k hk; rw [hS.n] at this; exact this) (fun k hk => by rw [hS.np.symm] at hk; have := hin.T k hk; rw [hS.n] at this; exact this) f1 f2
  refine ⟨(fitW_iff.1 g1).2, fun i hi => ?_⟩
  have hm := hok.1
  have hL := hok.2
  rw [env, enp] at g2 g3 g4
  exact flF_le (nv := prNv s n) (np := (prPs s n).length) (fun j hj => (hL j (by omega)).1) g2 g3 g4 i (by omega)

theorem fitB_lb {E : Env} {f B gv cv gx cx gt ct : Nat} {L : Nat → Int} : fitB (lbE E B gv cv gx cx gt ct) f (lbS (spV L E.nv) (spX L E.nv E.np) (spT L E.nv E.np)) = fitB E f (lsW L E.nv E.np) := by
  unfold fitB
  have e1 := okT_same (E := lbE E B gv cv gx cx gt ct) (E' := E) ⟨rfl, rfl, rfl, rfl, rfl, rfl, rfl⟩ f
  have e2 := allD_same (E := lbE E B gv cv gx cx gt ct) (E' := E) ⟨rfl, rfl, rfl, rfl, rfl, rfl, rfl⟩ f
  have e3 : ∀ V k, fxB (lbE E B gv cv gx cx gt ct) V k = fxB E V k := by
    intro V k
    induction k with
    | zero => rfl
    | succ k ih => simp only [fxB]; rw [ih]; rfl
  rw [e1, e2, e3]
  rfl

end Go.Proofs.Ytfcflnnleadpkaa
