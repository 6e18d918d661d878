import Derived.Test.YtfcflnnleadpkabUeJ
namespace Go.Proofs.Ytfcflnnleadpkab
open Go.RowKit

/-- A program, wherever it lies. -/
def pE (R : Nat → Nat → Bool) (s : ByteArray) (n : Nat) : Env :=
  { wb := 0, pb := 0, lb := 0, ob := 0, g := 0, cap := 0, n := n, nv := prNv s n, np := (prPs s n).length, main := prNv s n + 1, gv := 0, cv := 0, gx := 0, cx := 0, gt := 0, ct := 0, gf := 0, cf := 0, gp := 0, cp := 0,
    rb := fun _ => 0, R := R, s := s, low := false, P := fun k => (((prPs s n).getD k 0 : Nat) : Int), B := 0 }
/-- The same program, maybe elsewhere. -/
structure Same (E E' : Env) : Prop where
  s : E.s = E'.s
  R : E.R = E'.R
  n : E.n = E'.n
  nv : E.nv = E'.nv
  np : E.np = E'.np
  main : E.main = E'.main
  P : E.P = E'.P
theorem stepW_same {E E' : Env} (h : Same E E') (f : Nat) (st : WS) : stepW E f st = stepW E' f st := by
  unfold stepW allW
  have e := allTo_env (E := { E' with low := true }) (E' := { E with low := true }) h.s h.R h.n rfl h.P h.main f (rsW st)
  rw [e]
  show (allTo { E' with low := true } f (rsW st) E.np).2 = _
  rw [h.np]
theorem lowR_same {E E' : Env} (h : Same E E') (f : Nat) : ∀ g b st, lowR E f g b st = lowR E' f g b st := by
  intro g
  induction g with
  | zero => intro b st; rfl
  | succ g ih => intro b st; simp only [lowR]; rw [stepW_same h, ih]
theorem st0_same {E E' : Env} (h : Same E E') : st0 E = st0 E' := by
  have hv : v0 E = v0 E' := by funext k; unfold v0; rw [h.s, h.n, h.R]
  unfold st0; rw [hv, h.R, h.n]
theorem lowW_same {E E' : Env} (h : Same E E') (f : Nat) : lowW E f = lowW E' f := by
  unfold lowW; rw [lowR_same h, st0_same h]
theorem tdP_same {E E' : Env} (h : Same E E') (f : Nat) (V X T : Nat → Nat) (k : Nat) : tdP E f V X T k = tdP E' f V X T k := by unfold tdP; rw [h.s, h.R, h.n, h.P]
theorem allD_same {E E' : Env} (h : Same E E') (f : Nat) (V X T : Nat → Nat) : ∀ k, allD E f V X T k = allD E' f V X T k := by
  intro k
  induction k with
  | zero => simp only [allD]; unfold tdM; rw [h.s, h.R, h.n, h.main]
  | succ k ih => simp only [allD]; rw [ih, tdP_same h]
theorem okT_same {E E' : Env} (h : Same E E') (f : Nat) (V X T : Nat → Nat) : ∀ k, okT E f V X T k = okT E' f V X T k := by
  intro k
  induction k with
  | zero => rfl
  | succ k ih => simp only [okT]; rw [ih, tdP_same h, h.R, h.n]

/-- The lowest labelling of a program; its first bad place. -/
def ckL (o s : ByteArray) (n : Nat) : WS := lowW (pE (cl o n) s n) (s.size + 1)
def ckD (o s : ByteArray) (n : Nat) : List Dm := allD (pE (cl o n) s n) (s.size + 1) (ckL o s n).V (ckL o s n).X (ckL o s n).T (prPs s n).length
def ckB (o s : ByteArray) (n : Nat) : Int := bdF (cl o n) (ckL o s n).V (ckL o s n).X (ckD o s n) (-1)
/-- What checking comes to: the error, the place, the number of levels. -/
def CkPost (o s : ByteArray) (e p : Int) (n : Nat) : Prop :=
  (ReadPost o e p n ∧ e ≠ 0) ∨ (ReadPost o 0 0 n ∧ prE s n ≠ 0 ∧ e = prE s n ∧ p = prP s n) ∨
  (ReadPost o 0 0 n ∧ prE s n = 0 ∧ 0 ≤ ckB o s n ∧ e = 6 ∧ p = ckB o s n) ∨ (ReadPost o 0 0 n ∧ prE s n = 0 ∧ ckB o s n < 0 ∧ e = 0 ∧ p = 0)
theorem CkPost_uniq {o s : ByteArray} {e p e' p' : Int} {n n' : Nat} (h : CkPost o s e p n) (h' : CkPost o s e' p' n') : e = e' ∧ p = p' ∧ n = n' := by
  rcases h with ⟨a, b⟩ | ⟨a, b, rfl, rfl⟩ | ⟨a, b, c, rfl, rfl⟩ | ⟨a, b, c, rfl, rfl⟩ <;>
  rcases h' with ⟨a', b'⟩ | ⟨a', b', rfl, rfl⟩ | ⟨a', b', c', rfl, rfl⟩ | ⟨a', b', c', rfl, rfl⟩ <;>
  obtain ⟨h1, h2, h3⟩ := ReadPost_uniq a a' <;> subst h3 <;> first | exact ⟨h1, h2, rfl⟩ | exact ⟨rfl, rfl, rfl⟩ | omega
/-- What the document's Check answers, and what it leaves in memory. -/
def CheckAns (o s : ByteArray) (B : Nat) (e : Ending) (w' : World) : Prop :=
  ∃ (a p : Int) (n : Nat), CkPost o s a p n ∧
    ((a ≠ 0 ∧ e = .returned (.tuple #[.pointer none, .pointer none, .int .i64 a, .int .i64 p])) ∨
     (a = 0 ∧ p = 0 ∧ ∃ E, Same E (pE (cl o n) s n) ∧ At0 E w' (ckL o s n) ∧ B ≤ E.pb ∧ B ≤ E.lb ∧ e = .returned (.tuple #[.pointer (some ⟨E.pb, 0, none⟩), .pointer (some ⟨E.lb, 0, none⟩), .int .i64 0, .int .i64 0])))

/-- What is known of a text that is read. -/
structure Known (o s : ByteArray) (n : Nat) : Prop where
  A : Lat n (cl o n)
  n8 : n ≤ 8
  sz : s.size ≤ 300
  nv : prNv s n ≤ 8
  np : (prPs s n).length ≤ 4
  Q : Parts (pE (cl o n) s n) (s.size + 1)
theorem known {o s : ByteArray} {n : Nat} (h : ReadPost o 0 0 n) (k : prE s n = 0) : Known o s n := by
  obtain ⟨h1, h2⟩ : GoodOrd o n ∧ Hm.wellR (cl o n) n = true := by
    rcases h with ⟨_, h, _⟩ | ⟨_, _, _, h, _⟩ | ⟨_, _, _, _, h, _⟩ | ⟨_, a, b, _⟩
    · omega
    · omega
    · omega
    · exact ⟨a, b⟩
  obtain ⟨p1, p2, p3, p4, p5⟩ := prE_parts k
  refine ⟨cl_lat o h1.1.2.2.1 h2, h1.1.2.2.2, p1, p2, p3, p4, fun j hj => ?_⟩
  have hj' : j < (prPs s n).length := hj
  obtain ⟨m, hm⟩ := p5 ((prPs s n).getD j 0) (by simp [hj'])
  exact ⟨_, m, rfl, hm⟩
theorem Parts.same {E E' : Env} {f : Nat} (h : Same E E') (Q : Parts E' f) : Parts E f := by
  obtain ⟨⟨j, hj⟩, hp⟩ := Q
  refine ⟨⟨j, ?_⟩, fun k hk => ?_⟩
  · unfold wf0 at hj ⊢; rw [h.s, h.nv, h.n, h.np, h.main]; exact hj
  · obtain ⟨m, j, e, hm⟩ := hp k (by rw [← h.np]; exact hk)
    refine ⟨m, j, by rw [h.P]; exact e, ?_⟩
    unfold wf0 at hm ⊢; rw [h.s, h.nv, h.n, h.np]; exact hm
theorem Known.low {o s : ByteArray} {n : Nat} (h : Known o s n) : LowOk (pE (cl o n) s n) (s.size + 1) (ckL o s n).V (ckL o s n).X (ckL o s n).T :=
  lowW_ok (E := pE (cl o n) s n) h.A h.Q h.n8 h.nv h.np

theorem PI_pg {w0 w : World} {cb pb ob g cap : Nat} {rb : Nat → Nat} {R : Nat → Nat → Bool} {s : ByteArray} {i : Nat} {bad : Bool} {n : Nat} {C : List Nat} {v pv fl : Value}
    (h : PI w0 w cb pb (.pointer (some ⟨ob, 0, none⟩)) s i bad n (prNv s n) C v (prNv s n + 1) (prPs s n) pv fl) (ho : Ord w ob g cap n rb R) :
    ∃ E, Pg E w ∧ Same E (pE R s n) ∧ E.pb = pb := by
  obtain ⟨gp, cp, ep, _, rp⟩ := own_sl h.pown (fun k hk => cells_get hk)
  obtain ⟨gf, cf, ef, _, rf'⟩ := own_sl (F := fixV (bt s) n) h.fown (fun k hk => by simp [fixL, hk])
  refine ⟨{ pE R s n with pb := pb, ob := ob, g := g, cap := cap, rb := rb, gp := gp, cp := cp, gf := gf, cf := cf }, ⟨?_, ho, rf', rp⟩, ⟨rfl, rfl, rfl, rfl, rfl, rfl, rfl⟩, rfl⟩
  have := h.pr
  rw [ep, ef] at this
  exact this
theorem Ord.below {w w' : World} {o g cap n : Nat} {rb : Nat → Nat} {R : Nat → Nat → Bool} (h : Ord w o g cap n rb R) (hn : 1 ≤ n) (hb : Below w.heap.size w w') : Ord w' o g cap n rb R :=
  h.keep (hb.block _ (World.block_lt_of_cell? w _ h.cn)) (hb.block _ (World.block_lt_of_cell? w _ (h.row 0 (by omega)))) (fun i hi => hb.block _ (World.block_lt_of_cell? w _ (h.bel i 0 hi (by omega))))

end Go.Proofs.Ytfcflnnleadpkab
