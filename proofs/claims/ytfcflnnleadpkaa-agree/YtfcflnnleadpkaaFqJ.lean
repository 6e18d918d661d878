import Derived.Test.YtfcflnnleadpkaaFpJ
import Derived.Test.YtfcflnnleadpkaaFjJ
import Derived.Test.YtfcflnnleadpkaaTmJ
import Derived.Deep.LoopGhost
namespace Go.Proofs.Ytfcflnnleadpkaa

/-- The program's look at all statements. -/
def pA (E : Env) (f : Nat) (st : WS) : Nat → WS
  | 0 => pS (bt E.s) E.R E.n (fxE E) f E.main (bot E.R E.n) st
  | k + 1 => raT E.R E.n (pS (bt E.s) E.R E.n (fxE E) f (E.P k).toNat ((pA E f st k).X k) (pA E f st k)) k
      (wd (bt E.s) E.R E.n (pS (bt E.s) E.R E.n (fxE E) f (E.P k).toNat ((pA E f st k).X k) (pA E f st k)).V (pS (bt E.s) E.R E.n (fxE E) f (E.P k).toNat ((pA E f st k).X k) (pA E f st k)).T f (E.P k).toNat ((pA E f st k).X k)).2.1

section
variable {E : Env} {f : Nat} {st : WS} {V X T V' X' T' : Nat → Nat}

theorem raT_low (A : Lat E.n E.R) {k t : Nat} (hk : k < E.np) (ht : t < E.n) (hr : InR E.n E.nv E.np st) :
    InR E.n E.nv E.np (raT E.R E.n st k t) ∧ RisA E st (raT E.R E.n st k t) ∧ ((raT E.R E.n st k t = st ∧ Le E.R E.n t (st.T k)) ∨ ((raT E.R E.n st k t).ra = true ∧ mH E.R E.n E.nv E.np st < mH E.R E.n E.nv E.np (raT E.R E.n st k t))) ∧
    (raT E.R E.n st k t).V = st.V ∧ (raT E.R E.n st k t).X = st.X ∧ (Bel E.R E.n E.np st.T T' → Le E.R E.n t (T' k) → Bel E.R E.n E.np (raT E.R E.n st k t).T T') := by
  unfold raT
  by_cases h : jn E.R E.n (st.T k) t = st.T k
  · rw [if_pos h]
    exact ⟨hr, ⟨Bel.refl A hr.V, Bel.refl A hr.X, Bel.refl A hr.T, fun h => h, fun _ _ => rfl⟩, Or.inl ⟨rfl, A.of_jn (hr.T k hk) ht h⟩, rfl, rfl, fun h _ => h⟩
  · rw [if_neg h]
    have hb : Bel E.R E.n E.np st.T (setF st.T k (jn E.R E.n (st.T k) t)) := Bel.set A hr.T (A.l (hr.T k hk) ht)
    refine ⟨⟨hr.V, hr.X, fun j hj => (hb j hj).2.2⟩, ⟨Bel.refl A hr.V, Bel.refl A hr.X, hb, fun _ => rfl, fun _ _ => rfl⟩, Or.inr ⟨rfl, ?_⟩, rfl, rfl, fun h1 h2 => h1.setU (A.sup (h1 k hk) h2)⟩
    have h3 := sm_lt A E.np hb hk (by unfold setF; rw [if_pos rfl]; exact fun e => h e.symm)
    unfold Go.Proofs.Ytfcflnnleadpkaa.mH
    simp only
    omega

theorem pA_low (A : Lat E.n E.R) (Q : Parts E f) (hr : InR E.n E.nv E.np st) : ∀ k, k ≤ E.np →
    InR E.n E.nv E.np (pA E f st k) ∧ RisA E st (pA E f st k) ∧
    ((pA E f st k = putB st (bdG E.R st.V st.X (allD E f st.V st.X st.T k) st.bad) ∧ Sat E.R E.n (fxE E) st.V st.X (allD E f st.V st.X st.T k) ∧ ∀ j, j < k → Le E.R E.n (tdP E f st.V st.X st.T j).2.1 (st.T j)) ∨
      ((pA E f st k).ra = true ∧ mH E.R E.n E.nv E.np st < mH E.R E.n E.nv E.np (pA E f st k))) ∧
    (Bel E.R E.n E.nv st.V V' → Bel E.R E.n E.np st.X X' → Bel E.R E.n E.np st.T T' → Sat E.R E.n (fxE E) V' X' (allD E f V' X' T' k) → (∀ j, j < k → Le E.R E.n (tdP E f V' X' T' j).2.1 (T' j)) →
      Bel E.R E.n E.nv (pA E f st k).V V' ∧ Bel E.R E.n E.np (pA E f st k).X X' ∧ Bel E.R E.n E.np (pA E f st k).T T') := by
  intro k
  induction k with
  | zero =>
    intro _
    obtain ⟨j, hj⟩ := Q.main
    have hb := bot_lt (R := E.R) A.n1
    obtain ⟨h1, h2, h3⟩ := pS_low (fx := fxE E) (c := bt E.s) A f E.main (bot E.R E.n) j st hj hb hr
    refine ⟨h1, h2.risA A hr, ?_, fun hV hX hT hs _ => ?_⟩
    · rcases h3 with ⟨g1, g2⟩ | g
      · exact Or.inl ⟨g1, g2, fun j hj => by omega⟩
      · exact Or.inr g
    · have h4 := pS_under (fx := fxE E) (c := bt E.s) (V' := V') (X' := X') (T' := T') A f E.main (bot E.R E.n) (bot E.R E.n) j st hj hb hr hV hX hT (A.refl hb) hs
      exact ⟨h4.1, h4.2, by show Bel E.R E.n E.np (pS _ _ _ _ _ _ _ _).T T'; rw [h2.T]; exact hT⟩
  | succ k ih =>
    intro hk
    obtain ⟨i1, i2, i3, i4⟩ := ih (by omega)
    obtain ⟨m, j, em, hj⟩ := Q.proc k (by omega)
    have em' : (E.P k).toNat = m := by omega
    obtain ⟨r, er⟩ : ∃ r, pA E f st k = r := ⟨_, rfl⟩
    have e : pA E f st (k + 1) = raT E.R E.n (pS (bt E.s) E.R E.n (fxE E) f m (r.X k) r) k (wd (bt E.s) E.R E.n (pS (bt E.s) E.R E.n (fxE E) f m (r.X k) r).V (pS (bt E.s) E.R E.n (fxE E) f m (r.X k) r).T f m (r.X k)).2.1 := by
      simp only [pA]; rw [er, em']
    rw [er] at i1 i2 i3 i4
    have hx := i1.X k (by omega)
    obtain ⟨h1, h2, h3⟩ := pS_low (fx := fxE E) (c := bt E.s) A f m (r.X k) j r hj hx i1
    have h5 := fun V' X' T' => pS_under (fx := fxE E) (c := bt E.s) (V' := V') (X' := X') (T' := T') A f m (r.X k) (X' k) j r hj hx i1
    obtain ⟨y, ey⟩ : ∃ y, pS (bt E.s) E.R E.n (fxE E) f m (r.X k) r = y := ⟨_, rfl⟩
    rw [e, ey]
    rw [ey] at h1 h2 h3
    simp only [ey] at h5
    have ht := (wd_ok (c := bt E.s) A.L A.n1 h1.V h1.T f m (r.X k) j hj hx).2.1
    obtain ⟨t1, t2, t3, t4, t5, t6⟩ := raT_low (T' := T') A (by omega : k < E.np) ht h1
    refine ⟨t1, (i2.trans A (h2.risA A i1)).trans A t2, ?_, fun hV hX hT hs hth => ?_⟩
    · have hm := (h2.risA A i1).mH A
      have hm2 := t2.mH A
      rcases i3 with ⟨g1, g2, g3⟩ | ⟨g1, g2⟩
      · rcases h3 with ⟨f1, f3⟩ | ⟨f1, f2⟩
        · rcases t3 with ⟨s1, s2⟩ | ⟨s1, s2⟩
          · have ed : (tdP E f st.V st.X st.T k).2.2 = (wd (bt E.s) E.R E.n r.V r.T f m (r.X k)).2.2 := by unfold tdP; rw [em', g1]; rfl
            refine Or.inl ⟨?_, ?_, fun l hl2 => ?_⟩
            · rw [s1, f1]
              simp only [allD]
              rw [bdG_append, ed, g1]
              rfl
            · refine g2.app ?_
              rw [ed]
              rw [g1] at f3 ⊢
              exact f3
            · by_cases el : l = k
              · subst el
                unfold tdP
                rw [em']
                rw [f1, g1] at s2
                exact s2
              · exact g3 l (by omega)
          · refine Or.inr ⟨s1, ?_⟩
            have e3 : mH E.R E.n E.nv E.np y = mH E.R E.n E.nv E.np st := by rw [f1, g1]; rfl
            rw [e3] at s2
            exact s2
        · refine Or.inr ⟨t2.ra f1, ?_⟩
          have e3 : mH E.R E.n E.nv E.np r = mH E.R E.n E.nv E.np st := by rw [g1]; rfl
          rw [e3] at f2
          exact Nat.lt_of_lt_of_le f2 hm2
      · exact Or.inr ⟨t2.ra (h2.ra g1), by omega⟩
    · obtain ⟨p1, p2, p3⟩ := i4 hV hX hT hs.fst (fun l hl2 => hth l (by omega))
      have hs2 : Sat E.R E.n (fxE E) V' X' (wd (bt E.s) E.R E.n V' T' f m (X' k)).2.2 := by
        have := hs.snd
        unfold tdP at this
        rw [em'] at this
        exact this
      obtain ⟨q1, q2⟩ := h5 V' X' T' p1 p2 p3 (p2 k (by omega)) hs2
      have hT1 : Bel E.R E.n E.np y.T T' := by rw [h2.T]; exact p3
      have hm := (wd_mono (c := bt E.s) A q1 hT1 f m (r.X k) (X' k) j hj (p2 k (by omega))).2.2.1
      refine ⟨by rw [t4]; exact q1, by rw [t5]; exact q2, t6 hT1 (A.trans hm ?_)⟩
      have := hth k (by omega)
      unfold tdP at this
      rw [em'] at this
      exact this

/-- Between two looks. -/
structure LInv (E : Env) (f : Nat) (st : WS) : Prop where
  inr : InR E.n E.nv E.np st
  fx : Fixd E st.V
  und : ∀ V' X' T', (∀ k, k < E.nv → V' k < E.n) → (∀ k, k < E.np → X' k < E.n) → (∀ k, k < E.np → T' k < E.n) → Fixd E V' → SoftW E f V' X' T' →
    Bel E.R E.n E.nv st.V V' ∧ Bel E.R E.n E.np st.X X' ∧ Bel E.R E.n E.np st.T T'
  fin : st.ra = false → SoftW E f st.V st.X st.T ∧ st.bad = bdG E.R st.V st.X (allD E f st.V st.X st.T E.np) (-1)
def pStep (E : Env) (f : Nat) (st : WS) : WS := pA E f (rsW st) E.np
theorem LInv.step (A : Lat E.n E.R) (Q : Parts E f) (h : LInv E f st) : LInv E f (pStep E f st) ∧ ((pStep E f st).ra = false ∨ mH E.R E.n E.nv E.np st < mH E.R E.n E.nv E.np (pStep E f st)) := by
  have hr0 : InR E.n E.nv E.np (rsW st) := ⟨h.inr.V, h.inr.X, h.inr.T⟩
  have key := fun V' X' T' => pA_low (V' := V') (X' := X') (T' := T') A Q hr0 E.np (Nat.le_refl _)
  obtain ⟨h1, h2, h3, _⟩ := key st.V st.X st.T
  refine ⟨⟨h1, fun k hk hf => ?_, fun V' X' T' hV hX hT hF hS => ?_, fun hra => ?_⟩, ?_⟩
  · have := h2.fx k hf
    show ((pA E f (rsW st) E.np).V k : Int) = _
    rw [this]
    exact h.fx k hk hf
  · obtain ⟨b1, b2, b3⟩ := h.und V' X' T' hV hX hT hF hS
    exact (key V' X' T').2.2.2 b1 b2 b3 hS.dem hS.thr
  · rcases h3 with ⟨g1, g2, g3⟩ | ⟨g1, _⟩
    · have eV : (pStep E f st).V = st.V := by unfold pStep; rw [g1]; rfl
      have eX : (pStep E f st).X = st.X := by unfold pStep; rw [g1]; rfl
      have eT : (pStep E f st).T = st.T := by unfold pStep; rw [g1]; rfl
      rw [eV, eX, eT]
      refine ⟨⟨g2, g3⟩, ?_⟩
      unfold pStep; rw [g1]; rfl
    · have h9 : (pA E f (rsW st) E.np).ra = false := hra
      rw [h9] at g1; cases g1
  · rcases h3 with ⟨g1, _, _⟩ | ⟨_, g2⟩
    · exact Or.inl (by unfold pStep; rw [g1]; rfl)
    · exact Or.inr g2
theorem LInv.low (h : LInv E f st) (hra : st.ra = false) : LowOk E f st.V st.X st.T := ⟨h.inr.V, h.inr.X, h.inr.T, h.fx, (h.fin hra).1, h.und⟩

theorem labE_end (c : Nat → Int) (R : Nat → Nat → Bool) (n : Nat) {nv : Nat} (V : Nat → Nat) : ∀ f i j, scE c nv f i = (j, false) → (labE c R n V f i).1 = j := by
  intro f
  induction f with
  | zero => intro i j h; simp [scE] at h
  | succ f ih =>
    intro i j hs
    cases ho : isOp (c i)
    · obtain ⟨rfl, h2 | ⟨h2, h3⟩⟩ := scE_inv_leaf hs ho
      · rw [labE_dig ho h2]
      · rw [labE_var ho h2]
    · obtain ⟨k, e1, e2⟩ := scE_inv_op hs ho
      rw [labE_op ho, ih _ _ e1, ih _ _ e2]
/-- The same labels where they count: the same table. -/
theorem labE_congP {c : Nat → Int} {R : Nat → Nat → Bool} {n nv : Nat} (h : ∀ k, k < nv → V k = V' k) : ∀ f i j, scE c nv f i = (j, false) → labE c R n V f i = labE c R n V' f i := by
  intro f
  induction f with
  | zero => intro i j h; simp [scE] at h
  | succ f ih =>
    intro i j hs
    cases ho : isOp (c i)
    · obtain ⟨rfl, h2 | ⟨h2, h3⟩⟩ := scE_inv_leaf hs ho
      · rw [labE_dig ho h2, labE_dig ho h2]
      · rw [labE_var ho h2, labE_var ho h2]
        obtain ⟨k, e, hk⟩ := isVar_nat h3
        rw [e, show ((k : Int)).toNat = k from rfl, h k hk]
    · obtain ⟨k, e1, e2⟩ := scE_inv_op hs ho
      rw [labE_op ho, labE_op ho, ← ih _ _ e1]
      by_cases hk : (labE c R n V f (i + 1)).1 = k
      · rw [hk, ← ih _ _ e2]
      · exact absurd (labE_end c R n V f _ _ e1) hk
theorem wd_congP {c : Nat → Int} {R : Nat → Nat → Bool} {n nv np : Nat} (A : Lat n R) (hV0 : ∀ k, k < nv → V k < n) (hT0 : ∀ k, k < np → T k < n) (hV : ∀ k, k < nv → V k = V' k) (hT : ∀ k, k < np → T k = T' k) :
    ∀ (f i p j : Nat), wfS c nv n np f i = (j, false) → p < n → wd c R n V T f i p = wd c R n V' T' f i p := by
  have hE : ∀ f i j p, scE c nv f i = (j, false) → condW c R n V f i p = condW c R n V' f i p := by
    intro f i j p h; unfold condW; rw [labE_congP hV f i j h]
  intro f
  induction f with
  | zero => intro i p j h; simp [wfS] at h
  | succ f ih =>
    intro i p j h hp
    rcases wfS_letter h with hc | hc | hc | hc | hc | hc | hc | hc
    · rcases hc with hc | hc
      · rw [wd_dot hc, wd_dot hc]
      · rw [wd_x hc, wd_x hc]
    · obtain ⟨k, e1, e2⟩ := wfS_inv_seq h hc
      obtain ⟨w1, w2, _⟩ := wd_ok (c := c) A.L A.n1 hV0 hT0 f (i + 1) p k e1 hp
      rw [wd_seq hc, wd_seq hc]
      simp only
      rw [← ih (i + 1) p k e1 hp, w1, ← ih k _ j e2 (A.lt hp w2)]
    · obtain ⟨e1, e2⟩ := wfS_inv_eq h hc
      rw [wd_eq hc, wd_eq hc, hE _ _ _ _ e2]
    · obtain ⟨k, m, e1, e2, e3⟩ := wfS_inv_i h hc
      obtain ⟨a1, a2, a3⟩ := condW_ok (c := c) A.L A.n1 hV0 hp e1
      rw [wd_i hc, wd_i hc]
      simp only
      rw [← hE _ _ _ _ e1, a1, ← ih k _ m e2 a2, (wd_ok (c := c) A.L A.n1 hV0 hT0 f k _ m e2 a2).1, ← ih m _ j e3 a2]
    · obtain ⟨k, e1, e2⟩ := wfS_inv_w h hc
      obtain ⟨a1, a2, a3⟩ := condW_ok (c := c) A.L A.n1 hV0 hp e1
      rw [wd_w hc, wd_w hc]
      simp only
      have hrr := A.lt a2 a3
      have hd := (wd_ok (c := c) A.L A.n1 hV0 hT0 f k _ j e2 hrr).2.1
      rw [← hE _ _ _ _ e1, a1, ← ih k _ j e2 hrr, ← ih k _ j e2 (A.lt hrr hd)]
    · obtain ⟨e1, e2, rfl⟩ := wfS_inv_r h hc
      rw [wd_r hc, wd_r hc]
    · obtain ⟨e1, e2⟩ := wfS_inv_o h hc
      rw [wd_o hc, wd_o hc, hE _ _ _ _ e2]
    · obtain ⟨e1, rfl⟩ := wfS_inv_c h hc
      obtain ⟨d, ed, hd⟩ := isDB_nat e1
      rw [wd_c hc, wd_c hc, ed, show ((d : Int)).toNat = d from rfl, hT d hd]
theorem allD_cong (A : Lat E.n E.R) (Q : Parts E f) (hV0 : ∀ k, k < E.nv → V k < E.n) (hX0 : ∀ k, k < E.np → X k < E.n) (hT0 : ∀ k, k < E.np → T k < E.n)
    (hV : ∀ k, k < E.nv → V k = V' k) (hX : ∀ k, k < E.np → X k = X' k) (hT : ∀ k, k < E.np → T k = T' k) : ∀ k, k ≤ E.np → allD E f V X T k = allD E f V' X' T' k := by
  intro k
  induction k with
  | zero =>
    intro _
    obtain ⟨j, hj⟩ := Q.main
    simp only [allD]
    unfold tdM
    rw [wd_congP A hV0 hT0 hV hT f E.main _ j hj (bot_lt A.n1)]
  | succ k ih =>
    intro hk
    obtain ⟨m, j, em, hj⟩ := Q.proc k (by omega)
    have em' : (E.P k).toNat = m := by omega
    simp only [allD]
    rw [ih (by omega)]
    unfold tdP
    rw [em', ← hX k (by omega), wd_congP A hV0 hT0 hV hT f m _ j hj (hX0 k (by omega))]
theorem bdG_cong (hV : ∀ k, k < E.nv → V k = V' k) (hX : ∀ k, k < E.np → X k = X' k) : ∀ (ds : List Dm) (b : Int), (∀ d ∈ ds, TgOk E.n E.nv E.np d.tg) → bdG E.R V X ds b = bdG E.R V' X' ds b := by
  intro ds
  induction ds with
  | nil => intro b _; rfl
  | cons d ds ih =>
    intro b h
    have ht : tgv V X d.tg = tgv V' X' d.tg := by
      have h1 := h d (List.mem_cons.2 (Or.inl rfl))
      cases e : d.tg with
      | lev x => rfl
      | var v => rw [e] at h1; exact hV v h1
      | ctx k => rw [e] at h1; exact hX k h1
    simp only [bdG]
    unfold bg1
    rw [ht]
    exact ih _ (fun x hx => h x (List.mem_cons.2 (Or.inr hx)))

/-- Demands in the order of their places. -/
def Srt (ds : List Dm) : Prop := ds.Pairwise (fun a b => a.pl ≤ b.pl)
theorem bd_of_pos {R : Nat → Nat → Bool} : ∀ (ds : List Dm) (b : Int), 0 ≤ b → bdG R V X ds b = b := by
  intro ds
  induction ds with
  | nil => intro b _; rfl
  | cons d ds ih =>
    intro b hb
    simp only [bdG]
    unfold bg1
    rw [if_neg (by omega)]
    exact ih b hb
theorem bdF_above {R : Nat → Nat → Bool} : ∀ (ds : List Dm) (b : Int), 0 ≤ b → (∀ d ∈ ds, b ≤ (d.pl : Int)) → bdF R V X ds b = b := by
  intro ds
  induction ds with
  | nil => intro b _ _; rfl
  | cons d ds ih =>
    intro b hb h
    have h1 := h d (List.mem_cons.2 (Or.inl rfl))
    simp only [bdF]
    unfold bd1
    rw [if_neg (by omega)]
    exact ih b hb (fun x hx => h x (List.mem_cons.2 (Or.inr hx)))
theorem bdG_bdF {R : Nat → Nat → Bool} : ∀ (ds : List Dm), Srt ds → bdG R V X ds (-1) = bdF R V X ds (-1) := by
  intro ds
  induction ds with
  | nil => intro _; rfl
  | cons d ds ih =>
    intro h
    obtain ⟨h1, h2⟩ := List.pairwise_cons.1 h
    simp only [bdG, bdF]
    cases e : R d.a (tgv V X d.tg)
    · have e1 : bg1 R V X d (-1) = (d.pl : Int) := by unfold bg1; rw [if_pos ⟨by omega, e⟩]
      have e2 : bd1 R V X d (-1) = (d.pl : Int) := by unfold bd1; rw [if_pos ⟨e, Or.inl (by omega)⟩]
      rw [e1, e2, bd_of_pos _ _ (by omega), bdF_above _ _ (by omega) (fun x hx => by have := h1 x hx; omega)]
    · have e1 : bg1 R V X d (-1) = -1 := by unfold bg1; rw [if_neg (by rw [e]; simp)]
      have e2 : bd1 R V X d (-1) = -1 := by unfold bd1; rw [if_neg (by rw [e]; simp)]
      rw [e1, e2, ih h2]
theorem Srt.app {a b : List Dm} {m : Nat} (ha : Srt a) (hb : Srt b) (h1 : ∀ d ∈ a, d.pl < m) (h2 : ∀ d ∈ b, m ≤ d.pl) : Srt (a ++ b) :=
  List.pairwise_append.2 ⟨ha, hb, fun x hx y hy => by have := h1 x hx; have := h2 y hy; omega⟩
theorem scE_lt2 {c : Nat → Int} {nv : Nat} : ∀ f i j, scE c nv f i = (j, false) → i < j := by
  intro f
  induction f with
  | zero => intro i j h; simp [scE] at h
  | succ f ih =>
    intro i j hs
    cases ho : isOp (c i)
    · obtain ⟨rfl, _⟩ := scE_inv_leaf hs ho; omega
    · obtain ⟨k, e1, e2⟩ := scE_inv_op hs ho
      have := ih _ _ e1; have := ih _ _ e2; omega
theorem wfS_lt2 {c : Nat → Int} {nv n np : Nat} : ∀ f i j, wfS c nv n np f i = (j, false) → i < j := by
  intro f
  induction f with
  | zero => intro i j h; simp [wfS] at h
  | succ f ih =>
    intro i j h
    rcases wfS_letter h with hc | hc | hc | hc | hc | hc | hc | hc
    · have := wfS_inv_plain h hc; omega
    · obtain ⟨k, e1, e2⟩ := wfS_inv_seq h hc
      have := ih _ _ e1; have := ih _ _ e2; omega
    · obtain ⟨e1, e2⟩ := wfS_inv_eq h hc
      have := scE_lt2 _ _ _ e2; omega
    · obtain ⟨k, m, e1, e2, e3⟩ := wfS_inv_i h hc
      have := scE_lt2 _ _ _ e1; have := ih _ _ e2; have := ih _ _ e3; omega
    · obtain ⟨k, e1, e2⟩ := wfS_inv_w h hc
      have := scE_lt2 _ _ _ e1; have := ih _ _ e2; omega
    · obtain ⟨e1, e2, rfl⟩ := wfS_inv_r h hc; omega
    · obtain ⟨e1, e2⟩ := wfS_inv_o h hc
      have := scE_lt2 _ _ _ e2; omega
    · obtain ⟨e1, rfl⟩ := wfS_inv_c h hc; omega
theorem wd_srt {c : Nat → Int} {R : Nat → Nat → Bool} {n nv np : Nat} (A : Lat n R) (hV0 : ∀ k, k < nv → V k < n) (hT0 : ∀ k, k < np → T k < n) :
    ∀ (f i p j : Nat), wfS c nv n np f i = (j, false) → p < n → Srt (wd c R n V T f i p).2.2 ∧ ∀ d ∈ (wd c R n V T f i p).2.2, i ≤ d.pl ∧ d.pl < j := by
  intro f
  induction f with
  | zero => intro i p j h; simp [wfS] at h
  | succ f ih =>
    intro i p j h hp
    have hij := wfS_lt2 _ _ _ h
    rcases wfS_letter h with hc | hc | hc | hc | hc | hc | hc | hc
    · rcases hc with hc | hc
      · rw [wd_dot hc]; exact ⟨List.Pairwise.nil, fun d hd => by simp at hd⟩
      · rw [wd_x hc]; exact ⟨List.Pairwise.nil, fun d hd => by simp at hd⟩
    · obtain ⟨k, e1, e2⟩ := wfS_inv_seq h hc
      obtain ⟨w1, w2, _⟩ := wd_ok (c := c) A.L A.n1 hV0 hT0 f (i + 1) p k e1 hp
      rw [wd_seq hc]
      simp only
      rw [w1]
      obtain ⟨a1, a2⟩ := ih (i + 1) p k e1 hp
      obtain ⟨b1, b2⟩ := ih k _ j e2 (A.lt hp w2)
      have l1 := wfS_lt2 _ _ _ e1
      have l2 := wfS_lt2 _ _ _ e2
      refine ⟨a1.app b1 (m := k) (fun d hd => (a2 d hd).2) (fun d hd => (b2 d hd).1), fun d hd => ?_⟩
      rcases List.mem_append.1 hd with hd | hd
      · have := a2 d hd; omega
      · have := b2 d hd; omega
    · rw [wd_eq hc]
      exact ⟨List.pairwise_singleton _ _, fun d hd => by rw [List.mem_singleton.1 hd]; exact ⟨Nat.le_refl _, hij⟩⟩
    · obtain ⟨k, m, e1, e2, e3⟩ := wfS_inv_i h hc
      obtain ⟨a1, a2, a3⟩ := condW_ok (c := c) A.L A.n1 hV0 hp e1
      rw [wd_i hc]
      simp only
      rw [a1, (wd_ok (c := c) A.L A.n1 hV0 hT0 f k _ m e2 a2).1]
      obtain ⟨b1, b2⟩ := ih k _ m e2 a2
      obtain ⟨d1, d2⟩ := ih m _ j e3 a2
      have l0 := scE_lt2 _ _ _ e1
      have l1 := wfS_lt2 _ _ _ e2
      have l2 := wfS_lt2 _ _ _ e3
      refine ⟨b1.app d1 (m := m) (fun d hd => (b2 d hd).2) (fun d hd => (d2 d hd).1), fun d hd => ?_⟩
      rcases List.mem_append.1 hd with hd | hd
      · have := b2 d hd; omega
      · have := d2 d hd; omega
    · obtain ⟨k, e1, e2⟩ := wfS_inv_w h hc
      obtain ⟨a1, a2, a3⟩ := condW_ok (c := c) A.L A.n1 hV0 hp e1
      rw [wd_w hc]
      simp only
      have hrr := A.lt a2 a3
      rw [a1]
      have hd := (wd_ok (c := c) A.L A.n1 hV0 hT0 f k _ j e2 hrr).2.1
      obtain ⟨b1, b2⟩ := ih k _ j e2 (A.lt hrr hd)
      have l0 := scE_lt2 _ _ _ e1
      exact ⟨b1, fun d hd => by have := b2 d hd; omega⟩
    · rw [wd_r hc]
      refine ⟨List.pairwise_cons.2 ⟨fun d hd => by rw [List.mem_singleton.1 hd]; exact Nat.le_refl _, List.pairwise_singleton _ _⟩, fun d hd => ?_⟩
      rcases List.mem_cons.1 hd with hd | hd
      · rw [hd]; exact ⟨Nat.le_refl _, hij⟩
      · rw [List.mem_singleton.1 hd]; exact ⟨Nat.le_refl _, hij⟩
    · rw [wd_o hc]
      exact ⟨List.pairwise_singleton _ _, fun d hd => by rw [List.mem_singleton.1 hd]; exact ⟨Nat.le_refl _, hij⟩⟩
    · rw [wd_c hc]
      exact ⟨List.pairwise_singleton _ _, fun d hd => by rw [List.mem_singleton.1 hd]; exact ⟨Nat.le_refl _, hij⟩⟩
/-- The parts stand one behind the other. -/
def InOrd (E : Env) (f : Nat) : Prop := ∀ k, k < E.np → ∀ j, (k = 0 → wf0 E f E.main = (j, false) → j ≤ (E.P 0).toNat) ∧ (0 < k → wf0 E f (E.P (k - 1)).toNat = (j, false) → j ≤ (E.P k).toNat)
theorem allD_srt (A : Lat E.n E.R) (Q : Parts E f) (I : InOrd E f) (hV0 : ∀ k, k < E.nv → V k < E.n) (hX0 : ∀ k, k < E.np → X k < E.n) (hT0 : ∀ k, k < E.np → T k < E.n) :
    ∀ k, k ≤ E.np → Srt (allD E f V X T k) ∧ ∀ d ∈ allD E f V X T k, ∀ j, (k = 0 → wf0 E f E.main = (j, false) → d.pl < j) ∧ (0 < k → wf0 E f (E.P (k - 1)).toNat = (j, false) → d.pl < j) := by
  intro k
  induction k with
  | zero =>
    intro _
    obtain ⟨j, hj⟩ := Q.main
    obtain ⟨a1, a2⟩ := wd_srt (c := bt E.s) A hV0 hT0 f E.main _ j hj (bot_lt A.n1)
    refine ⟨a1, fun d hd j' => ⟨fun _ h => ?_, fun h => by omega⟩⟩
    rw [hj] at h
    have e : j = j' := congrArg Prod.fst h
    rw [← e]; exact (a2 d hd).2
  | succ k ih =>
    intro hk
    obtain ⟨i1, i2⟩ := ih (by omega)
    obtain ⟨m, j, em, hj⟩ := Q.proc k (by omega)
    have em' : (E.P k).toNat = m := by omega
    obtain ⟨b1, b2⟩ := wd_srt (c := bt E.s) A hV0 hT0 f m (X k) j hj (hX0 k (by omega))
    have hlow : ∀ d ∈ allD E f V X T k, d.pl < m := by
      intro d hd
      rcases Nat.eq_zero_or_pos k with e | e
      · obtain ⟨j0, hj0⟩ := Q.main
        have h1 := (i2 d hd j0).1 e hj0
        have h2 := (I k (by omega) j0).1 e hj0
        subst e
        omega
      · obtain ⟨m0, j0, em0, hj0⟩ := Q.proc (k - 1) (by omega)
        have em0' : (E.P (k - 1)).toNat = m0 := by omega
        have h1 := (i2 d hd j0).2 e (by rw [em0']; exact hj0)
        have h2 := (I k (by omega) j0).2 e (by rw [em0']; exact hj0)
        omega
    simp only [allD]
    unfold tdP
    rw [em']
    refine ⟨i1.app b1 (m := m) hlow (fun d hd => (b2 d hd).1), fun d hd j' => ⟨fun h => by omega, fun _ h => ?_⟩⟩
    rw [show k + 1 - 1 = k from rfl, em', hj] at h
    have e : j = j' := congrArg Prod.fst h
    have hmj := wfS_lt2 _ _ _ hj
    rcases List.mem_append.1 hd with hd | hd
    · have := hlow d hd; omega
    · have := b2 d hd; omega

/-- Where the program's looks end, they have the document's labels and its first bad place. -/
theorem LInv.same (A : Lat E.n E.R) (Q : Parts E f) (I : InOrd E f) (h : LInv E f st) (hra : st.ra = false) (hl : LowOk E f V X T) :
    (∀ k, k < E.nv → st.V k = V k) ∧ (∀ k, k < E.np → st.X k = X k) ∧ (∀ k, k < E.np → st.T k = T k) ∧ st.bad = bdF E.R V X (allD E f V X T E.np) (-1) := by
  obtain ⟨u1, u2, u3⟩ := (h.low hra).uniq A hl
  refine ⟨u1, u2, u3, ?_⟩
  rw [(h.fin hra).2, allD_cong A Q h.inr.V h.inr.X h.inr.T u1 u2 u3 E.np (Nat.le_refl _)]
  have ht := allD_in A Q hl.iv hl.ix hl.it E.np (Nat.le_refl _)
  rw [bdG_cong u1 u2 _ _ (fun d hd => (ht d hd).2)]
  exact bdG_bdF _ (allD_srt A Q I hl.iv hl.ix hl.it E.np (Nat.le_refl _)).1
end

end Go.Proofs.Ytfcflnnleadpkaa

namespace Go.Proofs.Ytfcflnnleadpkaa
open Go.RowKit
variable {D : FD} {w : World} {st : WS} {f : Nat}

/-- The program of a flow, as the document's side has it. -/
def dE (D : FD) : Env := { pE D.R D.s D.n with nv := D.nv, np := D.np, main := (D.S 0).toNat, P := fun k => D.S (k + 1) }
/-- A flow whose program is whole. -/
structure GOk (D : FD) (f : Nat) : Prop where
  O : FOk D
  V : VOk D
  Q : Parts (dE D) f
  m0 : D.S 0 = ((dE D).main : Int)
  tm : tbS (bt D.s) D.nv D.n D.np D.T f (dE D).main
  tp : ∀ k, k < D.np → tbS (bt D.s) D.nv D.n D.np D.T f (D.S (k + 1)).toNat
theorem GOk.exp (G : GOk D f) : ∀ f st, InR D.n D.nv D.np st → ExOk D st f := fun f _ hr => fExpr G.O hr f
theorem GOk.thr (G : GOk D f) : ∀ f st, InR D.n D.nv D.np st → ThOk D st f := fun f _ hr => fThrow G.O hr (fun f => fExpr G.O hr f) f
theorem GOk.dem (G : GOk D f) : DmOk D f := fDemand G.O G.V G.exp G.thr f

set_option maxHeartbeats 2000000 in
set_option maxRecDepth 100000 in
theorem fAll (G : GOk D f) (hr : InR D.n D.nv D.np st) (h : Fl D w st) :
    Calls Try.prog 77 #[.pointer (some ⟨D.b, 0, none⟩)] w fun e w' => e = .returned (.tuple #[]) ∧ Fl D w' (pA (dE D) f st D.np) ∧ Kf D.b w w' := by
  have k1 := h.bo G.O.A
  have p0 := h.ps (k := 0) (by omega)
  rw [G.m0] at p0
  simp only [Nat.add_zero] at p0
  obtain ⟨j0, hj0⟩ := G.Q.main
  have HJ0 := hide hj0
  clear hj0
  have HA := hide (fun k hk => (pA_low (V' := st.V) (X' := st.X) (T' := st.T) (E := dE D) G.O.A G.Q hr k hk).1)
  have HGD := hide G.dem
  have HGT := hide G.thr
  go_enter Try.func77, Try.ntmps77
  go_wp2_with fail
  have hb0 := bot_lt (R := D.R) G.O.A.n1
  go_region_with (go_at_call 102; refine ((unhide HGD).at rfl h.drew hr (unhide HJ0) G.tm hb0).mono ?_; rintro e w1 ⟨rfl, hf1, hk1⟩; have HF1 := hide (show Fl D w1 (pA (dE D) f st 0) from hf1); have HK1 := hide (((Kf.refl D.b w).drewN 1).trans hk1); clear hf1 hk1)
  all_goals
    clear k1 p0
    go_wp2_with fail
    go_loopw [2] (fun d wr => ∃ k : Nat, k ≤ D.np ∧ d = .int .i64 (k : Int) ∧ Fl D wr (pA (dE D) f st k) ∧ Kf D.b w wr) (fun d _ => D.np - (intOf d).toNat)
    case atStart => exact ⟨0, Nat.zero_le _, rfl, unhide HF1, unhide HK1⟩
    case round =>
      obtain ⟨k, hk, rfl, hf, hkf⟩ := hrel
      have kp := hf.cp
      have HF := hide hf
      have HK := hide hkf
      clear hkf
      by_cases hlt : k < D.np
      · have hr1 := unhide HA k hk
        have hn4 := G.O.np
        have hk4 : k < 4 := by omega
        have hk4' : (k : Int) < 4 := by omega
        have hk5 : (k : Int) + 1 < 5 := by omega
        obtain ⟨m, j, em, hj⟩ := G.Q.proc k hlt
        have ps := hf.ps (k := k + 1) (by omega)
        have em2 : D.S (k + 1) = (m : Int) := em
        rw [em2] at ps
        have HTP := hide (show tbS (bt D.s) D.nv D.n D.np D.T f m by have := G.tp k hlt; rw [em2] at this; exact this)
        have HJ := hide hj
        have px := hf.lx (k := k) hk4
        have HN := hide (show pA (dE D) f st (k + 1) = raT D.R D.n (pS (bt D.s) D.R D.n (fixV (bt D.s) D.n) f m ((pA (dE D) f st k).X k) (pA (dE D) f st k)) k (wd (bt D.s) D.R D.n (pS (bt D.s) D.R D.n (fixV (bt D.s) D.n) f m ((pA (dE D) f st k).X k) (pA (dE D) f st k)).V (pS (bt D.s) D.R D.n (fixV (bt D.s) D.n) f m ((pA (dE D) f st k).X k) (pA (dE D) f st k)).T f m ((pA (dE D) f st k).X k)).2.1 by
          show raT _ _ _ _ _ = _
          rw [show ((dE D).P k).toNat = m by rw [em]; rfl]; rfl)
        clear em em2 hj hf
        generalize pA (dE D) f st k = s1 at *
        have hx := hr1.X k hlt
        obtain ⟨r2, _, _⟩ := pS_low (fx := fixV (bt D.s) D.n) (c := bt D.s) G.O.A f m (s1.X k) j s1 (unhide HJ) hx hr1
        have a2 := (wd_ok (c := bt D.s) G.O.A.L G.O.A.n1 r2.V r2.T f m (s1.X k) j (unhide HJ) hx).2.1
        go_wp2_with fail
        refine ((unhide HGD).at rfl (unhide HF) hr1 (unhide HJ) (unhide HTP) hx).mono ?_
        rintro e w2 ⟨rfl, hf2, hk2⟩
        have HF2 := hide hf2
        have HK2 := hide ((unhide HK).trans hk2)
        clear hf2 hk2 ps px kp
        generalize s1.X k = x at *
        generalize pS (bt D.s) D.R D.n (fixV (bt D.s) D.n) f m x s1 = s2 at *
        go_wp2_with fail
        refine ((unhide HGT f s2 r2).at rfl (unhide HF2) (unhide HJ) (unhide HTP) hx).mono ?_
        rintro e w3 ⟨rfl, hb3⟩
        have hf3 := (unhide HF2).below hb3
        have HK3 := hide ((unhide HK2).trans (Kf.of_below hb3))
        have pt := hf3.lt (k := k) hk4
        have HF3 := hide hf3
        clear hb3 hf3
        have hT := r2.T k hlt
        generalize (wd (bt D.s) D.R D.n s2.V s2.T f m x).2.1 = t at *
        go_wp2_with fail
        go_region_with (go_at_call 104; refine (fRaise G.O (unhide HF3).drew hT a2).mono ?_; rintro e w4 ⟨rfl, hf4, hk4⟩; have HF4 := hide hf4; have HK4 := hide (((unhide HK3).drewN 1).trans hk4); have pt2 := hf4.lt (k := k) (by omega); have zt2 := hf4.fz (1058 + k); clear hf4 hk4)
        all_goals
          go_wp2_with fail
          go_roundw
          case rel =>
            refine ⟨k + 1, by omega, by go_num, ?_, (unhide HK4).setCell _ _ (unhide HF4)⟩
            have h9 := (unhide HF4).setT (x := jn D.R D.n (s2.T k) t) (show k < 4 by omega)
            rw [(raF_V (D := D) (st := s2)).2.2] at h9
            rw [unhide HN, raT_set]
            exact h9
          case measure => simp [intOf]; omega
      · have ek : k = D.np := by omega
        subst ek
        go_wp2_with fail
        go_end0
        exact ⟨rfl, unhide HF, unhide HK⟩

theorem Kf.setAny {b : Nat} {w w' : World} (h : Kf b w w') (j : Nat) (v : Value) : Kf b w (w'.setCell ⟨b, j, none⟩ v) :=
  ⟨h.os, h.tape, h.output, by rw [World.size_setCell]; exact h.size, fun k h1 h2 => (Below.heap_setCell w' _ v k h2).trans (h.block k h1 h2)⟩
theorem LInv.top (G : GOk D f) : mH D.R D.n D.nv D.np st ≤ 128 := mH_top (E := dE D) G.O.n8 G.O.nv G.O.np

set_option maxHeartbeats 2000000 in
set_option maxRecDepth 100000 in
theorem fLoop (G : GOk D f) (hB : ∀ w st, Fl D w st → Calls Try.prog 76 #[.pointer (some ⟨D.b, 0, none⟩)] w fun e w' => e = .returned (.tuple #[]) ∧ (∃ st', Fl D w' st' ∧ LInv (dE D) f { st' with ra := true }) ∧ Kf D.b w w') (h : Fl D w st) :
    Calls Try.prog 57 #[.pointer (some ⟨D.b, 0, none⟩)] w fun e w' => e = .returned (.tuple #[]) ∧ (∃ st', Fl D w' st' ∧ LInv (dE D) f st' ∧ st'.ra = false) ∧ Kf D.b w w' := by
  have HB := hide hB
  clear hB
  have HTop := hide (fun st : WS => (LInv.top (st := st) G))
  go_enter Try.func57, Try.ntmps57
  go_wp2_with fail
  refine (unhide HB w st h).mono ?_
  rintro e w1 ⟨rfl, ⟨s1, hf1, hl1⟩, hk1⟩
  have HF1 := hide (hf1.setR true)
  have HK1 := hide (hk1.setCell 1062 (.bool true) hf1)
  have HL1 := hide hl1
  have kr := hf1.ra
  have zr := hf1.fz 1062
  clear hf1 hk1 hl1
  go_wp2_with fail
  clear kr zr
  go_loopg [] 129 (fun g wr => ∃ (s : WS) (q : Nat), q = g ∧ Fl D wr s ∧ LInv (dE D) f s ∧ Kf D.b w wr ∧ (s.ra = true → 129 ≤ mH D.R D.n D.nv D.np s + q))
  case atStart => exact ⟨_, 129, rfl, unhide HF1, unhide HL1, unhide HK1, fun _ => by omega⟩
  case round =>
    obtain ⟨s, q, hq, hf, hl, hkf, hm⟩ := hrel
    have HQ := hide hq
    clear hq
    have kr := hf.ra
    have zr := hf.fz 1062
    have k0 := hf.c0
    have k1 := hf.c1
    have z0 := hf.fz 0
    have z1 := hf.fz 1
    have HF := hide hf
    have HL := hide hl
    have HK := hide hkf
    have HM := hide hm
    clear hf hl hkf hm
    cases hra : s.ra
    · rw [hra] at kr
      go_wp2_with fail
      go_end0
      exact ⟨rfl, ⟨s, unhide HF, unhide HL, hra⟩, unhide HK⟩
    · rw [hra] at kr
      have HS := hide ((unhide HL).step G.O.A G.Q)
      have HF2 := hide (((unhide HF).setR false).setB (b := -1) (e := 0) (p := 0) rfl rfl)
      have HR := hide (show InR D.n D.nv D.np (rsW s) from ⟨(unhide HL).inr.V, (unhide HL).inr.X, (unhide HL).inr.T⟩)
      have HK2 := hide ((((unhide HK).setAny 1062 (.bool false)).setAny 0 (.int .i64 0)).setAny 1 (.int .i64 0))
      go_wp2_with fail
      refine (fAll G (unhide HR) (unhide HF2)).mono ?_
      rintro e w2 ⟨rfl, hf2, hk2⟩
      have HF3 := hide (show Fl D w2 (pStep (dE D) f s) from hf2)
      have HK3 := hide ((unhide HK2).trans hk2)
      clear hf2 hk2
      go_wp2_with fail
      have hm := unhide HM hra
      have ht := unhide HTop s
      go_roundg (q - 1)
      case measure => have := unhide HQ; omega
      case rel =>
        refine ⟨_, _, rfl, unhide HF3, (unhide HS).1, unhide HK3, fun hra2 => ?_⟩
        rcases (unhide HS).2 with e | e
        · rw [e] at hra2; cases hra2
        · have e' : mH D.R D.n D.nv D.np s < mH D.R D.n D.nv D.np (pStep (dE D) f s) := e
          omega

end Go.Proofs.Ytfcflnnleadpkaa
