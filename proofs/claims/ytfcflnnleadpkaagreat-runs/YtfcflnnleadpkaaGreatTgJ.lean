import Derived.Test.YtfcflnnleadpkaaGreatSjJ
import Derived.BigQuiet
import Derived.Deep.QuietTactic
namespace Go.Proofs.YtfcflnnleadpkaaGreat

section
variable {c : Nat → Int} {nv N np : Nat} {f i j : Nat}

theorem wfS_inv_seq (h : wfS c nv N np (f + 1) i = (j, false)) (hc : c i = 44 ∨ c i = 116) : ∃ k, wfS c nv N np f (i + 1) = (k, false) ∧ wfS c nv N np f k = (j, false) := by
  simp only [wfS] at h
  rw [if_neg (by omega), if_pos hc] at h
  cases e : (wfS c nv N np f (i + 1)).2
  · rw [e] at h
    exact ⟨(wfS c nv N np f (i + 1)).1, Prod.ext rfl e, by simpa using h⟩
  · rw [e] at h; simp at h
theorem wfS_inv_eq (h : wfS c nv N np (f + 1) i = (j, false)) (hc : c i = 61) : isVar nv (c (i + 1)) = true ∧ scE c nv f (i + 2) = (j, false) := by
  simp only [wfS] at h
  rw [if_neg (by omega), if_neg (by omega), if_pos hc] at h
  cases e : isVar nv (c (i + 1))
  · rw [e] at h; simp at h
  · rw [e] at h; exact ⟨rfl, by simpa using h⟩
theorem wfS_inv_i (h : wfS c nv N np (f + 1) i = (j, false)) (hc : c i = 105) : ∃ k m, scE c nv f (i + 1) = (k, false) ∧ wfS c nv N np f k = (m, false) ∧ wfS c nv N np f m = (j, false) := by
  simp only [wfS] at h
  rw [if_neg (by omega), if_neg (by omega), if_neg (by omega), if_pos hc] at h
  cases e : (scE c nv f (i + 1)).2
  · rw [e] at h
    simp only [Bool.false_eq_true, if_false] at h
    cases e2 : (wfS c nv N np f (scE c nv f (i + 1)).1).2
    · rw [e2] at h
      exact ⟨_, _, Prod.ext rfl e, Prod.ext rfl e2, by simpa using h⟩
    · rw [e2] at h; simp at h
  · rw [e] at h; simp at h
theorem wfS_inv_w (h : wfS c nv N np (f + 1) i = (j, false)) (hc : c i = 119) : ∃ k, scE c nv f (i + 1) = (k, false) ∧ wfS c nv N np f k = (j, false) := by
  simp only [wfS] at h
  rw [if_neg (by omega), if_neg (by omega), if_neg (by omega), if_neg (by omega), if_pos hc] at h
  cases e : (scE c nv f (i + 1)).2
  · rw [e] at h
    exact ⟨_, Prod.ext rfl e, by simpa using h⟩
  · rw [e] at h; simp at h
theorem wfS_inv_r (h : wfS c nv N np (f + 1) i = (j, false)) (hc : c i = 114) : isDB (c (i + 1)) N = true ∧ isVar nv (c (i + 2)) = true ∧ j = i + 3 := by
  simp only [wfS] at h
  rw [if_neg (by omega), if_neg (by omega), if_neg (by omega), if_neg (by omega), if_neg (by omega), if_pos hc] at h
  split at h
  · rename_i hh
    simp at h
    exact ⟨hh.1, hh.2, h.symm⟩
  · simp at h
theorem wfS_inv_o (h : wfS c nv N np (f + 1) i = (j, false)) (hc : c i = 111) : isDB (c (i + 1)) N = true ∧ scE c nv f (i + 2) = (j, false) := by
  simp only [wfS] at h
  rw [if_neg (by omega), if_neg (by omega), if_neg (by omega), if_neg (by omega), if_neg (by omega), if_neg (by omega), if_pos hc] at h
  cases e : isDB (c (i + 1)) N
  · rw [e] at h; simp at h
  · rw [e] at h; exact ⟨rfl, by simpa using h⟩
theorem wfS_inv_c (h : wfS c nv N np (f + 1) i = (j, false)) (hc : c i = 99) : isDB (c (i + 1)) np = true ∧ j = i + 2 := by
  simp only [wfS] at h
  rw [if_neg (by omega), if_neg (by omega), if_neg (by omega), if_neg (by omega), if_neg (by omega), if_neg (by omega), if_neg (by omega), if_pos hc] at h
  split at h
  · rename_i hh; simp at h; exact ⟨hh, h.symm⟩
  · simp at h
theorem wfS_inv_plain (h : wfS c nv N np (f + 1) i = (j, false)) (hc : c i = 46 ∨ c i = 120) : j = i + 1 := by
  simp only [wfS] at h
  rw [if_pos hc] at h
  simp at h; exact h.symm
/-- The letters. -/
theorem wfS_letter (h : wfS c nv N np (f + 1) i = (j, false)) : (c i = 46 ∨ c i = 120) ∨ (c i = 44 ∨ c i = 116) ∨ c i = 61 ∨ c i = 105 ∨ c i = 119 ∨ c i = 114 ∨ c i = 111 ∨ c i = 99 := by
  by_cases h1 : c i = 46 ∨ c i = 120
  · exact Or.inl h1
  by_cases h2 : c i = 44 ∨ c i = 116
  · exact Or.inr (Or.inl h2)
  by_cases h3 : c i = 61
  · exact Or.inr (Or.inr (Or.inl h3))
  by_cases h4 : c i = 105
  · exact Or.inr (Or.inr (Or.inr (Or.inl h4)))
  by_cases h5 : c i = 119
  · exact Or.inr (Or.inr (Or.inr (Or.inr (Or.inl h5))))
  by_cases h6 : c i = 114
  · exact Or.inr (Or.inr (Or.inr (Or.inr (Or.inr (Or.inl h6)))))
  by_cases h7 : c i = 111
  · exact Or.inr (Or.inr (Or.inr (Or.inr (Or.inr (Or.inr (Or.inl h7))))))
  by_cases h8 : c i = 99
  · exact Or.inr (Or.inr (Or.inr (Or.inr (Or.inr (Or.inr (Or.inr h8))))))
  simp only [wfS] at h
  rw [if_neg h1, if_neg h2, if_neg h3, if_neg h4, if_neg h5, if_neg h6, if_neg h7, if_neg h8] at h
  simp at h
end

section
variable {c : Nat → Int} {R : Nat → Nat → Bool} {n nv np : Nat} {fx : Nat → Int} {low mute : Bool} {st : WS} {f i p : Nat}

theorem wkS_seq (h : c i = 44 ∨ c i = 116) : wkS c R n fx low (f + 1) mute i p st =
    ((wkS c R n fx low f mute (wkS c R n fx low f mute (i + 1) p st).1 (jn R n p (wkS c R n fx low f mute (i + 1) p st).2.1) (wkS c R n fx low f mute (i + 1) p st).2.2).1,
     (if c i = 44 then jn R n (wkS c R n fx low f mute (i + 1) p st).2.1 (wkS c R n fx low f mute (wkS c R n fx low f mute (i + 1) p st).1 (jn R n p (wkS c R n fx low f mute (i + 1) p st).2.1) (wkS c R n fx low f mute (i + 1) p st).2.2).2.1
      else (wkS c R n fx low f mute (wkS c R n fx low f mute (i + 1) p st).1 (jn R n p (wkS c R n fx low f mute (i + 1) p st).2.1) (wkS c R n fx low f mute (i + 1) p st).2.2).2.1),
     (wkS c R n fx low f mute (wkS c R n fx low f mute (i + 1) p st).1 (jn R n p (wkS c R n fx low f mute (i + 1) p st).2.1) (wkS c R n fx low f mute (i + 1) p st).2.2).2.2) := by
  simp only [wkS]; rw [if_pos h]
theorem wkS_eq (h : c i = 61) : wkS c R n fx low (f + 1) mute i p st = ((condW c R n st.V f (i + 2) p).1, (condW c R n st.V f (i + 2) p).2.2, atLW R n fx low mute st (c (i + 1) - 97).toNat (condW c R n st.V f (i + 2) p).2.1 i) := by
  simp only [wkS]; rw [if_neg (by omega), if_pos h]
theorem wkS_i (h : c i = 105) : wkS c R n fx low (f + 1) mute i p st =
    (let e := condW c R n st.V f (i + 1) p
     let r1 := wkS c R n fx low f mute e.1 e.2.1 st
     let r2 := wkS c R n fx low f mute r1.1 e.2.1 r1.2.2
     (r2.1, jn R n e.2.2 (jn R n r1.2.1 r2.2.1), r2.2.2)) := by
  simp only [wkS]; rw [if_neg (by omega), if_neg (by omega), if_pos h]
theorem wkS_w (h : c i = 119) : wkS c R n fx low (f + 1) mute i p st =
    (let e := condW c R n st.V f (i + 1) p
     let r := jn R n e.2.1 e.2.2
     let r1 := wkS c R n fx low f true e.1 r st
     (r1.1, jn R n e.2.2 r1.2.1, if mute = true then r1.2.2 else (wkS c R n fx low f false e.1 (jn R n r r1.2.1) r1.2.2).2.2)) := by
  simp only [wkS]; rw [if_neg (by omega), if_neg (by omega), if_neg (by omega), if_pos h]
theorem wkS_r (h : c i = 114) : wkS c R n fx low (f + 1) mute i p st = (i + 3, jn R n p (c (i + 1) - 48).toNat, atLW R n fx low mute (demW R mute st p (c (i + 1) - 48).toNat i) (c (i + 2) - 97).toNat (jn R n p (c (i + 1) - 48).toNat) i) := by
  simp only [wkS]; rw [if_neg (by omega), if_neg (by omega), if_neg (by omega), if_neg (by omega), if_pos h]
theorem wkS_o (h : c i = 111) : wkS c R n fx low (f + 1) mute i p st = ((condW c R n st.V f (i + 2) p).1, (condW c R n st.V f (i + 2) p).2.2, demW R mute st (condW c R n st.V f (i + 2) p).2.1 (c (i + 1) - 48).toNat i) := by
  simp only [wkS]; rw [if_neg (by omega), if_neg (by omega), if_neg (by omega), if_neg (by omega), if_neg (by omega), if_pos h]
theorem wkS_x (h : c i = 120) : wkS c R n fx low (f + 1) mute i p st = (i + 1, p, st) := by
  simp only [wkS]; rw [if_neg (by omega), if_neg (by omega), if_neg (by omega), if_neg (by omega), if_neg (by omega), if_neg (by omega), if_pos h]
theorem wkS_c (h : c i = 99) : wkS c R n fx low (f + 1) mute i p st = (i + 2, jn R n p (st.T (c (i + 1) - 48).toNat), callW R n low mute st (c (i + 1) - 48).toNat p i) := by
  simp only [wkS]; rw [if_neg (by omega), if_neg (by omega), if_neg (by omega), if_neg (by omega), if_neg (by omega), if_neg (by omega), if_neg (by omega), if_pos h]
theorem wkS_dot (h : c i = 46) : wkS c R n fx low (f + 1) mute i p st = (i + 1, bot R n, st) := by
  simp only [wkS]; rw [if_neg (by omega), if_neg (by omega), if_neg (by omega), if_neg (by omega), if_neg (by omega), if_neg (by omega), if_neg (by omega), if_neg (by omega)]

theorem InR.dem (h : InR n nv np st) {a b k : Nat} : InR n nv np (demW R mute st a b k) := by
  unfold demW; split
  · exact ⟨h.V, h.X, h.T⟩
  · exact h
theorem InR.atL (L : Lattice n R) (h : InR n nv np st) {v a k : Nat} (hv : v < nv) (ha : a < n) : InR n nv np (atLW R n fx low mute st v a k) := by
  unfold atLW; split
  · exact h
  · split
    · split
      · exact h
      · refine ⟨fun k hk => ?_, h.X, h.T⟩
        show setF st.V v (jn R n (st.V v) a) k < n
        unfold setF; split
        · exact (L.jn_lt (h.V v hv) ha).1
        · exact h.V k hk
    · exact h.dem
theorem InR.call (L : Lattice n R) (h : InR n nv np st) {v a k : Nat} (hv : v < np) (ha : a < n) : InR n nv np (callW R n low mute st v a k) := by
  unfold callW; split
  · split
    · exact h
    · refine ⟨h.V, fun k hk => ?_, h.T⟩
      show setF st.X v (jn R n (st.X v) a) k < n
      unfold setF; split
      · exact (L.jn_lt (h.X v hv) ha).1
      · exact h.X k hk
  · exact h.dem
theorem isDB_nat {x : Int} {m : Nat} (h : isDB x m = true) : ∃ k : Nat, x - 48 = (k : Int) ∧ k < m := by
  have := (isDB_iff x m).1 h
  exact ⟨(x - 48).toNat, by omega, by omega⟩

/-- Where a statement ends; its throw is a level; the labels stay levels. -/
theorem wkS_ok (L : Lattice n R) (h1 : 1 ≤ n) : ∀ (f : Nat) (mute : Bool) (i p j : Nat) (st : WS), wfS c nv n np f i = (j, false) → p < n → InR n nv np st →
    (wkS c R n fx low f mute i p st).1 = j ∧ (wkS c R n fx low f mute i p st).2.1 < n ∧ InR n nv np (wkS c R n fx low f mute i p st).2.2 := by
  intro f
  induction f with
  | zero => intro mute i p j st h; simp [wfS] at h
  | succ f ih =>
    intro mute i p j st h hp hr
    rcases wfS_letter h with hc | hc | hc | hc | hc | hc | hc | hc
    · have := wfS_inv_plain h hc
      subst this
      rcases hc with hc | hc
      · rw [wkS_dot hc]; exact ⟨rfl, bot_lt h1, hr⟩
      · rw [wkS_x hc]; exact ⟨rfl, hp, hr⟩
    · obtain ⟨k, e1, e2⟩ := wfS_inv_seq h hc
      obtain ⟨a1, a2, a3⟩ := ih mute (i + 1) p k st e1 hp hr
      rw [wkS_seq hc, a1]
      obtain ⟨b1, b2, b3⟩ := ih mute k (jn R n p (wkS c R n fx low f mute (i + 1) p st).2.1) j _ e2 (L.jn_lt hp a2).1 a3
      refine ⟨b1, ?_, b3⟩
      simp only
      split
      · exact (L.jn_lt a2 b2).1
      · exact b2
    · obtain ⟨e1, e2⟩ := wfS_inv_eq h hc
      obtain ⟨a1, a2, a3⟩ := condW_ok (c := c) L h1 hr.V hp e2
      obtain ⟨k, ek, hk⟩ := isVar_nat e1
      rw [wkS_eq hc]
      exact ⟨a1, a3, hr.atL L (by rw [ek]; exact hk) a2⟩
    · obtain ⟨k, m, e1, e2, e3⟩ := wfS_inv_i h hc
      obtain ⟨a1, a2, a3⟩ := condW_ok (c := c) L h1 hr.V hp e1
      rw [wkS_i hc]
      simp only
      rw [a1]
      obtain ⟨b1, b2, b3⟩ := ih mute k _ m st e2 a2 hr
      rw [b1]
      obtain ⟨d1, d2, d3⟩ := ih mute m _ j _ e3 a2 b3
      exact ⟨d1, (L.jn_lt a3 (L.jn_lt b2 d2).1).1, d3⟩
    · obtain ⟨k, e1, e2⟩ := wfS_inv_w h hc
      obtain ⟨a1, a2, a3⟩ := condW_ok (c := c) L h1 hr.V hp e1
      rw [wkS_w hc]
      simp only
      rw [a1]
      have hrr := (L.jn_lt a2 a3).1
      obtain ⟨b1, b2, b3⟩ := ih true k _ j st e2 hrr hr
      refine ⟨b1, (L.jn_lt a3 b2).1, ?_⟩
      split
      · exact b3
      · exact (ih false k _ j _ e2 (L.jn_lt hrr b2).1 b3).2.2
    · obtain ⟨e1, e2, rfl⟩ := wfS_inv_r h hc
      obtain ⟨d, ed, hd⟩ := isDB_nat e1
      obtain ⟨k, ek, hk⟩ := isVar_nat e2
      rw [wkS_r hc, ed, ek]
      exact ⟨rfl, (L.jn_lt hp hd).1, hr.dem.atL L hk (L.jn_lt hp hd).1⟩
    · obtain ⟨e1, e2⟩ := wfS_inv_o h hc
      obtain ⟨a1, a2, a3⟩ := condW_ok (c := c) L h1 hr.V hp e2
      rw [wkS_o hc]
      exact ⟨a1, a3, hr.dem⟩
    · obtain ⟨e1, rfl⟩ := wfS_inv_c h hc
      obtain ⟨d, ed, hd⟩ := isDB_nat e1
      rw [wkS_c hc, ed]
      exact ⟨rfl, (L.jn_lt hp (hr.T d hd)).1, hr.call L hd hp⟩
end

end Go.Proofs.YtfcflnnleadpkaaGreat

namespace Go.Proofs.YtfcflnnleadpkaaGreat

/-- a is below b, both levels. -/
def Le (R : Nat → Nat → Bool) (n a b : Nat) : Prop := R a b = true ∧ a < n ∧ b < n
/-- Levels, with a bottom. -/
structure Lat (n : Nat) (R : Nat → Nat → Bool) : Prop where
  L : Lattice n R
  n1 : 1 ≤ n
  bt : ∀ b, b < n → R (bot R n) b = true

variable {n : Nat} {R : Nat → Nat → Bool}

theorem meet_all (h : Hm.wellR R n = true) (tr : Trans n R) : ∀ m, m < n → ∃ a, a < n ∧ ∀ b, b ≤ m → R a b = true := by
  rw [Hm.wellR_iff] at h
  intro m
  induction m with
  | zero =>
    intro hm
    obtain ⟨c, hc, hg⟩ := ((Hm.wellRow_iff _ _ _ _).1 (h 0 0 hm hm)).2.2
    exact ⟨c, hc, fun b hb => by have : b = 0 := by omega
                                 subst this; exact ((Hm.glb_iff _ _ _ _ _).1 hg).1⟩
  | succ m ih =>
    intro hm
    obtain ⟨a, ha, hb⟩ := ih (by omega)
    obtain ⟨c, hc, hg⟩ := ((Hm.wellRow_iff _ _ _ _).1 (h a (m + 1) ha hm)).2.2
    have hg := (Hm.glb_iff _ _ _ _ _).1 hg
    refine ⟨c, hc, fun b hbm => ?_⟩
    by_cases e : b = m + 1
    · subst e; exact hg.2.1
    · exact tr c a b hc ha (by omega) hg.1 (hb b (by omega))
theorem cl_lat (s : ByteArray) (h1 : 1 ≤ n) (h : Hm.wellR (cl s n) n = true) : Lat n (cl s n) := by
  refine ⟨cl_lattice s n h, h1, fun b hb => ?_⟩
  obtain ⟨a, ha, hall⟩ := meet_all h (wf_trans n _) (n - 1) (by omega)
  unfold bot
  rcases Hm.firstB_spec (fun a => Hm.allB (cl s n a) n 0) n 0 with ⟨d, _, h2, h3, h4⟩ | ⟨h3, h4⟩
  · rw [h4]
    exact (Hm.allB_iff _ _ _).1 h3 b (by omega) (by omega)
  · have := h4 a (by omega) (by omega)
    have h5 : Hm.allB (cl s n a) n 0 = true := (Hm.allB_iff _ _ _).2 (fun d _ hd => hall d (by omega))
    rw [h5] at this
    cases this

variable {a b c d : Nat}
theorem Lat.refl (A : Lat n R) (h : a < n) : Le R n a a := ⟨A.L.refl a h, h, h⟩
theorem Lat.trans (A : Lat n R) (h : Le R n a b) (k : Le R n b c) : Le R n a c := ⟨A.L.trans a b c h.2.1 h.2.2 k.2.2 h.1 k.1, h.2.1, k.2.2⟩
theorem Lat.anti (A : Lat n R) (h : Le R n a b) (k : Le R n b a) : a = b := A.L.anti a b h.2.1 h.2.2 h.1 k.1
theorem Lat.bl (A : Lat n R) (h : a < n) : Le R n (bot R n) a := ⟨A.bt a h, bot_lt A.n1, h⟩
theorem Lat.lt (A : Lat n R) (ha : a < n) (hb : b < n) : jn R n a b < n := (A.L.jn_lt ha hb).1
theorem Lat.l (A : Lat n R) (ha : a < n) (hb : b < n) : Le R n a (jn R n a b) := ⟨((Hm.lub_iff _ _ _ _ _).1 (A.L.jn_lt ha hb).2.2).1, ha, A.lt ha hb⟩
theorem Lat.r (A : Lat n R) (ha : a < n) (hb : b < n) : Le R n b (jn R n a b) := ⟨((Hm.lub_iff _ _ _ _ _).1 (A.L.jn_lt ha hb).2.2).2.1, hb, A.lt ha hb⟩
theorem Lat.sup (A : Lat n R) (h : Le R n a c) (k : Le R n b c) : Le R n (jn R n a b) c := ⟨((Hm.lub_iff _ _ _ _ _).1 (A.L.jn_lt h.2.1 k.2.1).2.2).2.2 c h.2.2 h.1 k.1, A.lt h.2.1 k.2.1, h.2.2⟩
theorem Lat.mono (A : Lat n R) (h : Le R n a c) (k : Le R n b d) : Le R n (jn R n a b) (jn R n c d) := A.sup (A.trans h (A.l h.2.2 k.2.2)) (A.trans k (A.r h.2.2 k.2.2))
/-- What is below already adds nothing. -/
theorem Lat.jn_eq (A : Lat n R) (h : Le R n b a) : jn R n a b = a := A.anti (A.sup (A.refl h.2.2) h) (A.l h.2.2 h.2.1)
theorem Lat.of_jn (A : Lat n R) (ha : a < n) (hb : b < n) (h : jn R n a b = a) : Le R n b a := by have := A.r ha hb; rw [h] at this; exact this
theorem Lat.of_jn' (A : Lat n R) (ha : a < n) (hb : b < n) (h : jn R n a b = b) : Le R n a b := by have := A.l ha hb; rw [h] at this; exact this
theorem Lat.jn_eq' (A : Lat n R) (h : Le R n a b) : jn R n a b = b := A.anti (A.sup h (A.refl h.2.2)) (A.r h.2.1 h.2.2)

/-- One list of levels is below another. -/
def Bel (R : Nat → Nat → Bool) (n m : Nat) (F G : Nat → Nat) : Prop := ∀ k, k < m → Le R n (F k) (G k)
theorem Bel.refl (A : Lat n R) {m : Nat} {F : Nat → Nat} (h : ∀ k, k < m → F k < n) : Bel R n m F F := fun k hk => A.refl (h k hk)
theorem Bel.trans (A : Lat n R) {m : Nat} {F G H : Nat → Nat} (h : Bel R n m F G) (k : Bel R n m G H) : Bel R n m F H := fun i hi => A.trans (h i hi) (k i hi)

variable {cs : Nat → Int} {nv np : Nat} {V W : Nat → Nat}
theorem labE_mono (A : Lat n R) (h : Bel R n nv V W) : ∀ f i j, scE cs nv f i = (j, false) →
    (labE cs R n V f i).1 = j ∧ (labE cs R n W f i).1 = j ∧ Le R n (labE cs R n V f i).2.1 (labE cs R n W f i).2.1 ∧ Le R n (labE cs R n V f i).2.2.1 (labE cs R n W f i).2.2.1 ∧ (labE cs R n V f i).2.2.2 = (labE cs R n W f i).2.2.2 := by
  intro f
  induction f with
  | zero => intro i j h; simp [scE] at h
  | succ f ih =>
    intro i j hs
    cases ho : isOp (cs i)
    · obtain ⟨rfl, h2 | ⟨h2, h3⟩⟩ := scE_inv_leaf hs ho
      · rw [labE_dig ho h2, labE_dig ho h2]; exact ⟨rfl, rfl, A.refl (bot_lt A.n1), A.refl (bot_lt A.n1), rfl⟩
      · rw [labE_var ho h2, labE_var ho h2]
        obtain ⟨k, e, hk⟩ := isVar_nat h3
        exact ⟨rfl, rfl, by rw [e]; exact h k hk, A.refl (bot_lt A.n1), rfl⟩
    · obtain ⟨k, e1, e2⟩ := scE_inv_op hs ho
      obtain ⟨a1, a2, a3, a4, a5⟩ := ih _ _ e1
      obtain ⟨b1, b2, b3, b4, b5⟩ := ih _ _ e2
      rw [labE_op ho, labE_op ho, a1, a2]
      refine ⟨b1, b2, A.mono a3 b3, ?_, by simp only; rw [a5, b5]⟩
      simp only
      split
      · exact A.mono (A.mono a4 b4) b3
      · exact A.mono a4 b4
theorem condW_mono (A : Lat n R) (h : Bel R n nv V W) {f i j p q : Nat} (hs : scE cs nv f i = (j, false)) (hp : Le R n p q) :
    (condW cs R n V f i p).1 = j ∧ (condW cs R n W f i q).1 = j ∧ Le R n (condW cs R n V f i p).2.1 (condW cs R n W f i q).2.1 ∧ Le R n (condW cs R n V f i p).2.2 (condW cs R n W f i q).2.2 := by
  obtain ⟨a1, a2, a3, a4, a5⟩ := labE_mono A h f i j hs
  unfold condW
  refine ⟨a1, a2, A.mono hp a3, ?_⟩
  simp only
  rw [a5]
  split
  · exact A.mono hp a4
  · exact A.refl (bot_lt A.n1)

end Go.Proofs.YtfcflnnleadpkaaGreat

namespace Go.Proofs.YtfcflnnleadpkaaGreat

/-- What a demand is on: a level, a variable, a procedure's context. -/
inductive Tgt where
  | lev (d : Nat)
  | var (v : Nat)
  | ctx (k : Nat)
/-- A demand: the statement's place, what must be below. -/
structure Dm where
  pl : Nat
  a : Nat
  tg : Tgt
def tgv (V X : Nat → Nat) : Tgt → Nat
  | .lev d => d
  | .var v => V v
  | .ctx k => X k

section
variable (c : Nat → Int) (R : Nat → Nat → Bool) (n : Nat) (V T : Nat → Nat)
/-- The document's table: where a statement ends, its throw, its demands. -/
def wd : Nat → Nat → Nat → Nat × Nat × List Dm
  | 0, i, _ => (i, bot R n, [])
  | f + 1, i, p =>
    if c i = 44 ∨ c i = 116 then
      (let r1 := wd f (i + 1) p
       let r2 := wd f r1.1 (jn R n p r1.2.1)
       (r2.1, (if c i = 44 then jn R n r1.2.1 r2.2.1 else r2.2.1), r1.2.2 ++ r2.2.2))
    else if c i = 61 then
      (let e := condW c R n V f (i + 2) p
       (e.1, e.2.2, [⟨i, e.2.1, .var (c (i + 1) - 97).toNat⟩]))
    else if c i = 105 then
      (let e := condW c R n V f (i + 1) p
       let r1 := wd f e.1 e.2.1
       let r2 := wd f r1.1 e.2.1
       (r2.1, jn R n e.2.2 (jn R n r1.2.1 r2.2.1), r1.2.2 ++ r2.2.2))
    else if c i = 119 then
      (let e := condW c R n V f (i + 1) p
       let r := jn R n e.2.1 e.2.2
       let r1 := wd f e.1 r
       (r1.1, jn R n e.2.2 r1.2.1, (wd f e.1 (jn R n r r1.2.1)).2.2))
    else if c i = 114 then
      (let d := (c (i + 1) - 48).toNat
       (i + 3, jn R n p d, [⟨i, p, .lev d⟩, ⟨i, jn R n p d, .var (c (i + 2) - 97).toNat⟩]))
    else if c i = 111 then
      (let e := condW c R n V f (i + 2) p
       (e.1, e.2.2, [⟨i, e.2.1, .lev (c (i + 1) - 48).toNat⟩]))
    else if c i = 120 then (i + 1, p, [])
    else if c i = 99 then (i + 2, jn R n p (T (c (i + 1) - 48).toNat), [⟨i, p, .ctx (c (i + 1) - 48).toNat⟩])
    else (i + 1, bot R n, [])
end

section
variable {c : Nat → Int} {R : Nat → Nat → Bool} {n nv np : Nat} {V T : Nat → Nat} {f i p : Nat}
theorem wd_seq (h : c i = 44 ∨ c i = 116) : wd c R n V T (f + 1) i p =
    (let r1 := wd c R n V T f (i + 1) p
     let r2 := wd c R n V T f r1.1 (jn R n p r1.2.1)
     (r2.1, (if c i = 44 then jn R n r1.2.1 r2.2.1 else r2.2.1), r1.2.2 ++ r2.2.2)) := by
  simp only [wd]; rw [if_pos h]
theorem wd_eq (h : c i = 61) : wd c R n V T (f + 1) i p = ((condW c R n V f (i + 2) p).1, (condW c R n V f (i + 2) p).2.2, [⟨i, (condW c R n V f (i + 2) p).2.1, .var (c (i + 1) - 97).toNat⟩]) := by
  simp only [wd]; rw [if_neg (by omega), if_pos h]
theorem wd_i (h : c i = 105) : wd c R n V T (f + 1) i p =
    (let e := condW c R n V f (i + 1) p
     let r1 := wd c R n V T f e.1 e.2.1
     let r2 := wd c R n V T f r1.1 e.2.1
     (r2.1, jn R n e.2.2 (jn R n r1.2.1 r2.2.1), r1.2.2 ++ r2.2.2)) := by
  simp only [wd]; rw [if_neg (by omega), if_neg (by omega), if_pos h]
theorem wd_w (h : c i = 119) : wd c R n V T (f + 1) i p =
    (let e := condW c R n V f (i + 1) p
     let r := jn R n e.2.1 e.2.2
     let r1 := wd c R n V T f e.1 r
     (r1.1, jn R n e.2.2 r1.2.1, (wd c R n V T f e.1 (jn R n r r1.2.1)).2.2)) := by
  simp only [wd]; rw [if_neg (by omega), if_neg (by omega), if_neg (by omega), if_pos h]
theorem wd_r (h : c i = 114) : wd c R n V T (f + 1) i p = (i + 3, jn R n p (c (i + 1) - 48).toNat, [⟨i, p, .lev (c (i + 1) - 48).toNat⟩, ⟨i, jn R n p (c (i + 1) - 48).toNat, .var (c (i + 2) - 97).toNat⟩]) := by
  simp only [wd]; rw [if_neg (by omega), if_neg (by omega), if_neg (by omega), if_neg (by omega), if_pos h]
theorem wd_o (h : c i = 111) : wd c R n V T (f + 1) i p = ((condW c R n V f (i + 2) p).1, (condW c R n V f (i + 2) p).2.2, [⟨i, (condW c R n V f (i + 2) p).2.1, .lev (c (i + 1) - 48).toNat⟩]) := by
  simp only [wd]; rw [if_neg (by omega), if_neg (by omega), if_neg (by omega), if_neg (by omega), if_neg (by omega), if_pos h]
theorem wd_x (h : c i = 120) : wd c R n V T (f + 1) i p = (i + 1, p, []) := by
  simp only [wd]; rw [if_neg (by omega), if_neg (by omega), if_neg (by omega), if_neg (by omega), if_neg (by omega), if_neg (by omega), if_pos h]
theorem wd_c (h : c i = 99) : wd c R n V T (f + 1) i p = (i + 2, jn R n p (T (c (i + 1) - 48).toNat), [⟨i, p, .ctx (c (i + 1) - 48).toNat⟩]) := by
  simp only [wd]; rw [if_neg (by omega), if_neg (by omega), if_neg (by omega), if_neg (by omega), if_neg (by omega), if_neg (by omega), if_neg (by omega), if_pos h]
theorem wd_dot (h : c i = 46) : wd c R n V T (f + 1) i p = (i + 1, bot R n, []) := by
  simp only [wd]; rw [if_neg (by omega), if_neg (by omega), if_neg (by omega), if_neg (by omega), if_neg (by omega), if_neg (by omega), if_neg (by omega), if_neg (by omega)]

variable {fx : Nat → Int} {low mute : Bool} {st : WS} {j : Nat}

theorem callW_mute {v a k : Nat} : callW R n low true st v a k = st := by unfold callW; rw [if_neg (by simp)]; exact demW_mute

/-- The table: where a statement ends; its throw is a level, and so is what a demand speaks of. -/
def TgOk (n nv np : Nat) : Tgt → Prop
  | .lev d => d < n
  | .var v => v < nv
  | .ctx k => k < np
theorem wd_ok (L : Lattice n R) (h1 : 1 ≤ n) (hV : ∀ k, k < nv → V k < n) (hT : ∀ k, k < np → T k < n) : ∀ (f i p j : Nat), wfS c nv n np f i = (j, false) → p < n →
    (wd c R n V T f i p).1 = j ∧ (wd c R n V T f i p).2.1 < n ∧ ∀ d ∈ (wd c R n V T f i p).2.2, d.a < n ∧ TgOk n nv np d.tg := by
  intro f
  induction f with
  | zero => intro i p j h; simp [wfS] at h
  | succ f ih =>
    intro i p j h hp
    rcases wfS_letter h with hc | hc | hc | hc | hc | hc | hc | hc
    · have := wfS_inv_plain h hc
      subst this
      rcases hc with hc | hc
      · rw [wd_dot hc]; exact ⟨rfl, bot_lt h1, by simp⟩
      · rw [wd_x hc]; exact ⟨rfl, hp, by simp⟩
    · obtain ⟨k, e1, e2⟩ := wfS_inv_seq h hc
      obtain ⟨a1, a2, a3⟩ := ih (i + 1) p k e1 hp
      rw [wd_seq hc]
      simp only
      rw [a1]
      obtain ⟨b1, b2, b3⟩ := ih k (jn R n p (wd c R n V T f (i + 1) p).2.1) j e2 (L.jn_lt hp a2).1
      refine ⟨b1, ?_, fun d hd => ?_⟩
      · split
        · exact (L.jn_lt a2 b2).1
        · exact b2
      · rcases List.mem_append.1 hd with hd | hd
        · exact a3 d hd
        · exact b3 d hd
    · obtain ⟨e1, e2⟩ := wfS_inv_eq h hc
      obtain ⟨a1, a2, a3⟩ := condW_ok (c := c) L h1 hV hp e2
      obtain ⟨k, ek, hk⟩ := isVar_nat e1
      rw [wd_eq hc]
      refine ⟨a1, a3, fun d hd => ?_⟩
      rw [List.mem_singleton.1 hd]
      exact ⟨a2, by rw [ek]; exact hk⟩
    · obtain ⟨k, m, e1, e2, e3⟩ := wfS_inv_i h hc
      obtain ⟨a1, a2, a3⟩ := condW_ok (c := c) L h1 hV hp e1
      rw [wd_i hc]
      simp only
      rw [a1]
      obtain ⟨b1, b2, b3⟩ := ih k _ m e2 a2
      rw [b1]
      obtain ⟨d1, d2, d3⟩ := ih m _ j e3 a2
      refine ⟨d1, (L.jn_lt a3 (L.jn_lt b2 d2).1).1, fun d hd => ?_⟩
      rcases List.mem_append.1 hd with hd | hd
      · exact b3 d hd
      · exact d3 d hd
    · obtain ⟨k, e1, e2⟩ := wfS_inv_w h hc
      obtain ⟨a1, a2, a3⟩ := condW_ok (c := c) L h1 hV hp e1
      rw [wd_w hc]
      simp only
      rw [a1]
      have hrr := (L.jn_lt a2 a3).1
      obtain ⟨b1, b2, b3⟩ := ih k _ j e2 hrr
      exact ⟨b1, (L.jn_lt a3 b2).1, (ih k _ j e2 (L.jn_lt hrr b2).1).2.2⟩
    · obtain ⟨e1, e2, rfl⟩ := wfS_inv_r h hc
      obtain ⟨d, ed, hd⟩ := isDB_nat e1
      obtain ⟨k, ek, hk⟩ := isVar_nat e2
      rw [wd_r hc, ed, ek]
      refine ⟨rfl, (L.jn_lt hp hd).1, fun x hx => ?_⟩
      rcases List.mem_cons.1 hx with hx | hx
      · rw [hx]; exact ⟨hp, hd⟩
      · rw [List.mem_singleton.1 hx]; exact ⟨(L.jn_lt hp hd).1, hk⟩
    · obtain ⟨e1, e2⟩ := wfS_inv_o h hc
      obtain ⟨a1, a2, a3⟩ := condW_ok (c := c) L h1 hV hp e2
      obtain ⟨d, ed, hd⟩ := isDB_nat e1
      rw [wd_o hc, ed]
      refine ⟨a1, a3, fun x hx => ?_⟩
      rw [List.mem_singleton.1 hx]; exact ⟨a2, hd⟩
    · obtain ⟨e1, rfl⟩ := wfS_inv_c h hc
      obtain ⟨d, ed, hd⟩ := isDB_nat e1
      rw [wd_c hc, ed]
      refine ⟨rfl, (L.jn_lt hp (hT d hd)).1, fun x hx => ?_⟩
      rw [List.mem_singleton.1 hx]; exact ⟨hp, hd⟩

/-- A mute look is the table's. -/
theorem wkS_mute : ∀ (f i p : Nat), wkS c R n fx low f true i p st = ((wd c R n st.V st.T f i p).1, (wd c R n st.V st.T f i p).2.1, st) := by
  intro f
  induction f with
  | zero => intro i p; rfl
  | succ f ih =>
    intro i p
    simp only [wkS, wd, ih, demW_mute, atLW_mute, callW_mute, if_true]
    repeat' split
    all_goals rfl

/-- Another first bad place. -/
def putB (st : WS) (b : Int) : WS := { st with bad := b }
theorem putB_putB {b b' : Int} : putB (putB st b) b' = putB st b' := rfl
theorem putB_self : putB st st.bad = st := rfl
/-- One demand. -/
def bd1 (R : Nat → Nat → Bool) (V X : Nat → Nat) (d : Dm) (b : Int) : Int := if R d.a (tgv V X d.tg) = false ∧ (b < 0 ∨ (d.pl : Int) < b) then (d.pl : Int) else b
/-- The first bad place behind some demands. -/
def bdF (R : Nat → Nat → Bool) (V X : Nat → Nat) : List Dm → Int → Int
  | [], b => b
  | d :: ds, b => bdF R V X ds (bd1 R V X d b)
theorem bdF_append {V X : Nat → Nat} (ds es : List Dm) : ∀ b, bdF R V X (ds ++ es) b = bdF R V X es (bdF R V X ds b) := by
  induction ds with
  | nil => intro b; rfl
  | cons d ds ih => intro b; exact ih _
theorem demW_put {a b k : Nat} : demW R false st a b k = putB st (if R a b = false ∧ (st.bad < 0 ∨ (k : Int) < st.bad) then (k : Int) else st.bad) := by
  unfold demW putB
  by_cases h : R a b = false ∧ (st.bad < 0 ∨ (k : Int) < st.bad)
  · rw [if_pos ⟨rfl, h.1, h.2⟩, if_pos h]
  · rw [if_neg (fun g => h ⟨g.2.1, g.2.2⟩), if_neg h]
theorem demW_tg {a k : Nat} {tg : Tgt} {V X : Nat → Nat} {b : Nat} (hb : tgv V X tg = b) : demW R false st a b k = putB st (bd1 R V X ⟨k, a, tg⟩ st.bad) := by
  rw [demW_put]; unfold bd1; simp only; rw [hb]
theorem atLW_flat {v a k : Nat} : atLW R n fx false false st v a k = putB st (bd1 R st.V st.X ⟨k, a, .var v⟩ st.bad) := by
  unfold atLW; rw [if_neg (by simp), if_neg (by simp)]; exact demW_tg rfl
theorem callW_flat {v a k : Nat} : callW R n false false st v a k = putB st (bd1 R st.V st.X ⟨k, a, .ctx v⟩ st.bad) := by
  unfold callW; rw [if_neg (by simp)]; exact demW_tg rfl

/-- A look that raises nothing: the table's throw, and its demands held against the labelling. -/
theorem wkS_flat : ∀ (f i p : Nat) (st : WS), wkS c R n fx false f false i p st = ((wd c R n st.V st.T f i p).1, (wd c R n st.V st.T f i p).2.1, putB st (bdF R st.V st.X (wd c R n st.V st.T f i p).2.2 st.bad)) := by
  intro f
  induction f with
  | zero => intro i p st; rfl
  | succ f ih =>
    intro i p st
    by_cases h1 : c i = 44 ∨ c i = 116
    · rw [wkS_seq h1, wd_seq h1, ih (i + 1) p st]
      simp only
      rw [ih _ _ (putB st _), bdF_append]
      rfl
    by_cases h2 : c i = 61
    · rw [wkS_eq h2, wd_eq h2, atLW_flat]; rfl
    by_cases h3 : c i = 105
    · rw [wkS_i h3, wd_i h3]
      simp only
      rw [ih _ _ st]
      simp only
      rw [ih _ _ (putB st _), bdF_append]
      rfl
    by_cases h4 : c i = 119
    · rw [wkS_w h4, wd_w h4]
      simp only
      rw [wkS_mute]
      simp only [Bool.false_eq_true, if_false]
      rw [ih _ _ st]
    by_cases h5 : c i = 114
    · rw [wkS_r h5, wd_r h5, demW_tg (V := st.V) (X := st.X) (b := (c (i + 1) - 48).toNat) (tg := .lev (c (i + 1) - 48).toNat) rfl, atLW_flat]; rfl
    by_cases h6 : c i = 111
    · rw [wkS_o h6, wd_o h6, demW_tg (V := st.V) (X := st.X) (b := (c (i + 1) - 48).toNat) (tg := .lev (c (i + 1) - 48).toNat) rfl]; rfl
    by_cases h7 : c i = 120
    · rw [wkS_x h7, wd_x h7]; rfl
    by_cases h8 : c i = 99
    · rw [wkS_c h8, wd_c h8, callW_flat]; rfl
    simp only [wkS, wd]
    rw [if_neg h1, if_neg h2, if_neg h3, if_neg h4, if_neg h5, if_neg h6, if_neg h7, if_neg h8, if_neg h1, if_neg h2, if_neg h3, if_neg h4, if_neg h5, if_neg h6, if_neg h7, if_neg h8]
    rfl
end

end Go.Proofs.YtfcflnnleadpkaaGreat

namespace Go.Proofs.YtfcflnnleadpkaaGreat

section
variable {c : Nat → Int} {R : Nat → Nat → Bool} {n nv np : Nat} {V T V' T' : Nat → Nat}

/-- Each demand is one of the others', of no more. -/
def DmB (R : Nat → Nat → Bool) (n : Nat) (ds es : List Dm) : Prop := ∀ d ∈ ds, ∃ e ∈ es, e.tg = d.tg ∧ e.pl = d.pl ∧ Le R n d.a e.a
theorem DmB.nil {es : List Dm} : DmB R n [] es := fun d hd => by simp at hd
theorem DmB.app {a b a' b' : List Dm} (h : DmB R n a a') (k : DmB R n b b') : DmB R n (a ++ b) (a' ++ b') := by
  intro d hd
  rcases List.mem_append.1 hd with hd | hd
  · obtain ⟨e, he, h2⟩ := h d hd
    exact ⟨e, List.mem_append.2 (Or.inl he), h2⟩
  · obtain ⟨e, he, h2⟩ := k d hd
    exact ⟨e, List.mem_append.2 (Or.inr he), h2⟩
theorem DmB.one {i a b : Nat} {tg : Tgt} (h : Le R n a b) : DmB R n [⟨i, a, tg⟩] [⟨i, b, tg⟩] := by
  intro d hd
  rw [List.mem_singleton.1 hd]
  exact ⟨_, List.mem_singleton.2 rfl, rfl, rfl, h⟩

/-- Higher labels, a higher context: a higher throw, and each demand is of no less. -/
theorem wd_mono (A : Lat n R) (hV : Bel R n nv V V') (hT : Bel R n np T T') : ∀ (f i p q j : Nat), wfS c nv n np f i = (j, false) → Le R n p q →
    (wd c R n V T f i p).1 = j ∧ (wd c R n V' T' f i q).1 = j ∧ Le R n (wd c R n V T f i p).2.1 (wd c R n V' T' f i q).2.1 ∧ DmB R n (wd c R n V T f i p).2.2 (wd c R n V' T' f i q).2.2 := by
  intro f
  induction f with
  | zero => intro i p q j h; simp [wfS] at h
  | succ f ih =>
    intro i p q j h hp
    rcases wfS_letter h with hc | hc | hc | hc | hc | hc | hc | hc
    · have := wfS_inv_plain h hc
      subst this
      rcases hc with hc | hc
      · rw [wd_dot hc, wd_dot hc]; exact ⟨rfl, rfl, A.refl (bot_lt A.n1), DmB.nil⟩
      · rw [wd_x hc, wd_x hc]; exact ⟨rfl, rfl, hp, DmB.nil⟩
    · obtain ⟨k, e1, e2⟩ := wfS_inv_seq h hc
      obtain ⟨a1, a2, a3, a4⟩ := ih (i + 1) p q k e1 hp
      rw [wd_seq hc, wd_seq hc]
      simp only
      rw [a1, a2]
      obtain ⟨b1, b2, b3, b4⟩ := ih k (jn R n p (wd c R n V T f (i + 1) p).2.1) (jn R n q (wd c R n V' T' f (i + 1) q).2.1) j e2 (A.mono hp a3)
      refine ⟨b1, b2, ?_, a4.app b4⟩
      split
      · exact A.mono a3 b3
      · exact b3
    · obtain ⟨e1, e2⟩ := wfS_inv_eq h hc
      obtain ⟨a1, a2, a3, a4⟩ := condW_mono (cs := c) A hV e2 hp
      rw [wd_eq hc, wd_eq hc]
      exact ⟨a1, a2, a4, DmB.one a3⟩
    · obtain ⟨k, m, e1, e2, e3⟩ := wfS_inv_i h hc
      obtain ⟨a1, a2, a3, a4⟩ := condW_mono (cs := c) A hV e1 hp
      rw [wd_i hc, wd_i hc]
      simp only
      rw [a1, a2]
      obtain ⟨b1, b2, b3, b4⟩ := ih k _ _ m e2 a3
      rw [b1, b2]
      obtain ⟨d1, d2, d3, d4⟩ := ih m _ _ j e3 a3
      exact ⟨d1, d2, A.mono a4 (A.mono b3 d3), b4.app d4⟩
    · obtain ⟨k, e1, e2⟩ := wfS_inv_w h hc
      obtain ⟨a1, a2, a3, a4⟩ := condW_mono (cs := c) A hV e1 hp
      rw [wd_w hc, wd_w hc]
      simp only
      rw [a1, a2]
      have hrr := A.mono a3 a4
      obtain ⟨b1, b2, b3, b4⟩ := ih k _ _ j e2 hrr
      exact ⟨b1, b2, A.mono a4 b3, (ih k _ _ j e2 (A.mono hrr b3)).2.2.2⟩
    · obtain ⟨e1, e2, rfl⟩ := wfS_inv_r h hc
      obtain ⟨d, ed, hd⟩ := isDB_nat e1
      rw [wd_r hc, wd_r hc, ed]
      exact ⟨rfl, rfl, A.mono hp (A.refl hd), (DmB.one (b := q) hp).app (DmB.one (A.mono hp (A.refl hd)))⟩
    · obtain ⟨e1, e2⟩ := wfS_inv_o h hc
      obtain ⟨a1, a2, a3, a4⟩ := condW_mono (cs := c) A hV e2 hp
      rw [wd_o hc, wd_o hc]
      exact ⟨a1, a2, a4, DmB.one a3⟩
    · obtain ⟨e1, rfl⟩ := wfS_inv_c h hc
      obtain ⟨d, ed, hd⟩ := isDB_nat e1
      rw [wd_c hc, wd_c hc, ed]
      exact ⟨rfl, rfl, A.mono hp (hT d hd), DmB.one hp⟩
end

/-! The height of a labelling. -/
def cntB (P : Nat → Bool) : Nat → Nat
  | 0 => 0
  | m + 1 => cntB P m + if P m = true then 1 else 0
theorem cntB_top (P : Nat → Bool) : ∀ m, cntB P m ≤ m := by
  intro m
  induction m with
  | zero => exact Nat.le_refl _
  | succ m ih => simp only [cntB]; split <;> omega
theorem cntB_le {P Q : Nat → Bool} : ∀ m, (∀ k, k < m → P k = true → Q k = true) → cntB P m ≤ cntB Q m := by
  intro m
  induction m with
  | zero => intro _; exact Nat.le_refl _
  | succ m ih =>
    intro h
    have h1 := ih (fun k hk => h k (by omega))
    have h2 := h m (by omega)
    simp only [cntB]
    by_cases hp : P m = true
    · rw [if_pos hp, if_pos (h2 hp)]; omega
    · rw [if_neg hp]; split <;> omega
theorem cntB_lt {P Q : Nat → Bool} {x : Nat} : ∀ m, (∀ k, k < m → P k = true → Q k = true) → x < m → P x = false → Q x = true → cntB P m < cntB Q m := by
  intro m
  induction m with
  | zero => intro _ hx; omega
  | succ m ih =>
    intro h hx hp hq
    simp only [cntB]
    by_cases e : x = m
    · subst e
      have h1 := cntB_le x (fun k hk => h k (by omega))
      rw [if_neg (by rw [hp]; simp), if_pos hq]; omega
    · have h1 := ih (fun k hk => h k (by omega)) (by omega) hp hq
      have h2 := h m (by omega)
      by_cases hp : P m = true
      · rw [if_pos hp, if_pos (h2 hp)]; omega
      · rw [if_neg hp]; split <;> omega
def rk (R : Nat → Nat → Bool) (n a : Nat) : Nat := cntB (fun b => R b a) n
def sm (R : Nat → Nat → Bool) (n : Nat) (F : Nat → Nat) : Nat → Nat
  | 0 => 0
  | m + 1 => sm R n F m + rk R n (F m)
section
variable {R : Nat → Nat → Bool} {n m a b : Nat} {F G : Nat → Nat}
theorem rk_top : rk R n a ≤ n := cntB_top _ _
theorem rk_le (A : Lat n R) (h : Le R n a b) : rk R n a ≤ rk R n b := cntB_le n (fun _ hk hr => (A.trans ⟨hr, hk, h.2.1⟩ h).1)
theorem rk_lt (A : Lat n R) (h : Le R n a b) (hne : a ≠ b) : rk R n a < rk R n b := by
  refine cntB_lt (x := b) n (fun _ hk hr => (A.trans ⟨hr, hk, h.2.1⟩ h).1) h.2.2 ?_ (A.refl h.2.2).1
  cases e : R b a
  · rfl
  · exact absurd (A.anti h ⟨e, h.2.2, h.2.1⟩) hne
theorem sm_top : sm R n F m ≤ m * n := by
  induction m with
  | zero => simp [sm]
  | succ m ih =>
    simp only [sm]
    have := rk_top (R := R) (n := n) (a := F m)
    rw [Nat.succ_mul]; omega
theorem sm_le (A : Lat n R) : ∀ m, Bel R n m F G → sm R n F m ≤ sm R n G m := by
  intro m
  induction m with
  | zero => intro _; exact Nat.le_refl _
  | succ m ih =>
    intro h
    have h1 := ih (fun k hk => h k (by omega))
    have h2 := rk_le A (h m (by omega))
    simp only [sm]; omega
theorem sm_lt (A : Lat n R) {x : Nat} : ∀ m, Bel R n m F G → x < m → F x ≠ G x → sm R n F m < sm R n G m := by
  intro m
  induction m with
  | zero => intro _ hx; omega
  | succ m ih =>
    intro h hx hne
    simp only [sm]
    by_cases e : x = m
    · subst e
      have h1 := sm_le A x (fun k hk => h k (by omega))
      have h2 := rk_lt A (h x (by omega)) hne
      omega
    · have h1 := ih (fun k hk => h k (by omega)) (by omega) hne
      have h2 := rk_le A (h m (by omega))
      omega
end
/-- A labelling's height. -/
def mH (R : Nat → Nat → Bool) (n nv np : Nat) (st : WS) : Nat := sm R n st.V nv + sm R n st.X np + sm R n st.T np

end Go.Proofs.YtfcflnnleadpkaaGreat

namespace Go.Proofs.YtfcflnnleadpkaaGreat

/-- A demand that is met by raising. -/
def soft (fx : Nat → Int) : Tgt → Prop
  | .lev _ => False
  | .var v => fx v < 0
  | .ctx _ => True
def Sat (R : Nat → Nat → Bool) (n : Nat) (fx : Nat → Int) (V X : Nat → Nat) (ds : List Dm) : Prop := ∀ d ∈ ds, soft fx d.tg → Le R n d.a (tgv V X d.tg)

section
variable {c : Nat → Int} {R : Nat → Nat → Bool} {n nv np : Nat} {V T X V' T' X' : Nat → Nat} {fx : Nat → Int} {st r : WS} {i p : Nat}

theorem Sat.nil : Sat R n fx V X [] := fun d hd => by simp at hd
theorem Sat.app {a b : List Dm} (h : Sat R n fx V X a) (k : Sat R n fx V X b) : Sat R n fx V X (a ++ b) := by
  intro d hd
  rcases List.mem_append.1 hd with hd | hd
  · exact h d hd
  · exact k d hd
theorem Sat.fst {a b : List Dm} (h : Sat R n fx V X (a ++ b)) : Sat R n fx V X a := fun d hd => h d (List.mem_append.2 (Or.inl hd))
theorem Sat.snd {a b : List Dm} (h : Sat R n fx V X (a ++ b)) : Sat R n fx V X b := fun d hd => h d (List.mem_append.2 (Or.inr hd))
theorem Sat.one {d : Dm} (h : soft fx d.tg → Le R n d.a (tgv V X d.tg)) : Sat R n fx V X [d] := fun e he => by rw [List.mem_singleton.1 he]; exact h
theorem Sat.lev {i a d : Nat} : Sat R n fx V X [⟨i, a, .lev d⟩] := Sat.one (fun h => False.elim h)
theorem Sat.get {d : Dm} (h : Sat R n fx V X [d]) (k : soft fx d.tg) : Le R n d.a (tgv V X d.tg) := h d (List.mem_singleton.2 rfl) k

/-- The labelling rose (throws aside), and no level of the text's. -/
structure Ris (R : Nat → Nat → Bool) (n nv np : Nat) (fx : Nat → Int) (st r : WS) : Prop where
  V : Bel R n nv st.V r.V
  X : Bel R n np st.X r.X
  T : r.T = st.T
  ra : st.ra = true → r.ra = true
  fx : ∀ k, 0 ≤ fx k → r.V k = st.V k
theorem Ris.put (A : Lat n R) (h : InR n nv np st) (b : Int) : Ris R n nv np fx st (putB st b) := ⟨Bel.refl A h.V, Bel.refl A h.X, rfl, fun h => h, fun _ _ => rfl⟩
theorem Ris.rfl (A : Lat n R) (h : InR n nv np st) : Ris R n nv np fx st st := Ris.put A h st.bad
theorem Ris.trans (A : Lat n R) {s : WS} (h : Ris R n nv np fx st r) (k : Ris R n nv np fx r s) : Ris R n nv np fx st s :=
  ⟨h.V.trans A k.V, h.X.trans A k.X, k.T.trans h.T, fun e => k.ra (h.ra e), fun j hj => (k.fx j hj).trans (h.fx j hj)⟩
theorem Ris.mH (A : Lat n R) (hr : InR n nv np st) (h : Ris R n nv np fx st r) : mH R n nv np st ≤ mH R n nv np r := by
  have h1 := sm_le A nv h.V
  have h2 := sm_le A np h.X
  unfold Go.Proofs.YtfcflnnleadpkaaGreat.mH
  rw [h.T]
  have := hr.T
  omega
theorem Bel.set (A : Lat n R) {m v x : Nat} {F : Nat → Nat} (hF : ∀ k, k < m → F k < n) (h : Le R n (F v) x) : Bel R n m F (setF F v x) := by
  intro k hk
  unfold setF
  split
  · rename_i e; rw [e]; exact h
  · exact A.refl (hF k hk)
theorem Bel.setU {m v x : Nat} {F G : Nat → Nat} (h : Bel R n m F G) (hx : Le R n x (G v)) : Bel R n m (setF F v x) G := by
  intro k hk
  unfold setF
  split
  · rename_i e; rw [e]; exact hx
  · exact h k hk

/-- Still, or raised. -/
def SR (R : Nat → Nat → Bool) (n nv np : Nat) (st r : WS) (S : Prop) : Prop := ((∃ b, r = putB st b) ∧ S) ∨ (r.ra = true ∧ mH R n nv np st < mH R n nv np r)

theorem atLW_low (A : Lat n R) (hr : InR n nv np st) {v a k : Nat} (hv : v < nv) (ha : a < n) :
    Ris R n nv np fx st (atLW R n fx true false st v a k) ∧ SR R n nv np st (atLW R n fx true false st v a k) (fx v < 0 → Le R n a (st.V v)) ∧
    (Bel R n nv st.V V' → (fx v < 0 → Le R n a (V' v)) → Bel R n nv (atLW R n fx true false st v a k).V V') ∧ (atLW R n fx true false st v a k).X = st.X := by
  unfold atLW
  rw [if_neg (by simp)]
  by_cases hf : fx v < 0
  · rw [if_pos ⟨rfl, hf⟩]
    have hl := A.l (hr.V v hv) ha
    by_cases hj : jn R n (st.V v) a = st.V v
    · rw [if_pos hj]
      exact ⟨Ris.rfl A hr, Or.inl ⟨⟨st.bad, rfl⟩, fun _ => A.of_jn (hr.V v hv) ha hj⟩, fun h _ => h, rfl⟩
    · rw [if_neg hj]
      have hb : Bel R n nv st.V (setF st.V v (jn R n (st.V v) a)) := Bel.set A hr.V hl
      refine ⟨⟨hb, Bel.refl A hr.X, rfl, fun _ => rfl, fun k hk => ?_⟩, Or.inr ⟨rfl, ?_⟩, fun h h2 => ?_, rfl⟩
      · show setF st.V v _ k = st.V k
        unfold setF; rw [if_neg (fun e => by rw [e] at hk; omega)]
      · have h3 := sm_lt A nv hb hv (by unfold setF; rw [if_pos rfl]; exact fun e => hj e.symm)
        unfold Go.Proofs.YtfcflnnleadpkaaGreat.mH
        simp only
        omega
      · exact h.setU (A.sup (h v hv) (h2 hf))
  · rw [if_neg (fun h => hf h.2), demW_put]
    exact ⟨Ris.put A hr _, Or.inl ⟨⟨_, rfl⟩, fun h => absurd h hf⟩, fun h _ => h, rfl⟩
theorem callW_low (A : Lat n R) (hr : InR n nv np st) {v a k : Nat} (hv : v < np) (ha : a < n) :
    Ris R n nv np fx st (callW R n true false st v a k) ∧ SR R n nv np st (callW R n true false st v a k) (Le R n a (st.X v)) ∧
    (Bel R n np st.X X' → Le R n a (X' v) → Bel R n np (callW R n true false st v a k).X X') ∧ (callW R n true false st v a k).V = st.V := by
  unfold callW
  rw [if_pos ⟨rfl, rfl⟩]
  have hl := A.l (hr.X v hv) ha
  by_cases hj : jn R n (st.X v) a = st.X v
  · rw [if_pos hj]
    exact ⟨Ris.rfl A hr, Or.inl ⟨⟨st.bad, rfl⟩, A.of_jn (hr.X v hv) ha hj⟩, fun h _ => h, rfl⟩
  · rw [if_neg hj]
    have hb : Bel R n np st.X (setF st.X v (jn R n (st.X v) a)) := Bel.set A hr.X hl
    refine ⟨⟨Bel.refl A hr.V, hb, rfl, fun _ => rfl, fun _ _ => rfl⟩, Or.inr ⟨rfl, ?_⟩, fun h h2 => h.setU (A.sup (h v hv) h2), rfl⟩
    have h3 := sm_lt A np hb hv (by unfold setF; rw [if_pos rfl]; exact fun e => hj e.symm)
    unfold Go.Proofs.YtfcflnnleadpkaaGreat.mH
    simp only
    omega

/-- A look that raises: the labelling rises. -/
theorem wkS_rise (A : Lat n R) : ∀ (f i p j : Nat) (st : WS), wfS c nv n np f i = (j, false) → p < n → InR n nv np st → Ris R n nv np fx st (wkS c R n fx true f false i p st).2.2 := by
  intro f
  induction f with
  | zero => intro i p j st h; simp [wfS] at h
  | succ f ih =>
    intro i p j st h hp hr
    rcases wfS_letter h with hc | hc | hc | hc | hc | hc | hc | hc
    · rcases hc with hc | hc
      · rw [wkS_dot hc]; exact Ris.rfl A hr
      · rw [wkS_x hc]; exact Ris.rfl A hr
    · obtain ⟨k, e1, e2⟩ := wfS_inv_seq h hc
      obtain ⟨a1, a2, a3⟩ := wkS_ok (fx := fx) (low := true) A.L A.n1 f false (i + 1) p k st e1 hp hr
      have a4 := ih (i + 1) p k st e1 hp hr
      rw [wkS_seq hc, a1]
      exact a4.trans A (ih k _ j _ e2 (A.lt hp a2) a3)
    · obtain ⟨e1, e2⟩ := wfS_inv_eq h hc
      obtain ⟨a1, a2, a3⟩ := condW_ok (c := c) A.L A.n1 hr.V hp e2
      obtain ⟨k, ek, hk⟩ := isVar_nat e1
      rw [wkS_eq hc]
      exact (atLW_low (V' := st.V) A hr (by rw [ek]; exact hk) a2).1
    · obtain ⟨k, m, e1, e2, e3⟩ := wfS_inv_i h hc
      obtain ⟨a1, a2, a3⟩ := condW_ok (c := c) A.L A.n1 hr.V hp e1
      rw [wkS_i hc]
      simp only
      rw [a1]
      obtain ⟨b1, b2, b3⟩ := wkS_ok (fx := fx) (low := true) A.L A.n1 f false k _ m st e2 a2 hr
      rw [b1]
      exact (ih k _ m st e2 a2 hr).trans A (ih m _ j _ e3 a2 b3)
    · obtain ⟨k, e1, e2⟩ := wfS_inv_w h hc
      obtain ⟨a1, a2, a3⟩ := condW_ok (c := c) A.L A.n1 hr.V hp e1
      rw [wkS_w hc]
      simp only
      rw [a1, wkS_mute]
      simp only [Bool.false_eq_true, if_false]
      have hrr := A.lt a2 a3
      have hd := wd_ok (c := c) A.L A.n1 hr.V hr.T f k _ j e2 hrr
      exact ih k _ j st e2 (A.lt hrr hd.2.1) hr
    · obtain ⟨e1, e2, rfl⟩ := wfS_inv_r h hc
      obtain ⟨d, ed, hd⟩ := isDB_nat e1
      obtain ⟨k, ek, hk⟩ := isVar_nat e2
      rw [wkS_r hc, ed, ek, demW_put]
      have h1 : InR n nv np (putB st (if R p d = false ∧ (st.bad < 0 ∨ (i : Int) < st.bad) then (i : Int) else st.bad)) := ⟨hr.V, hr.X, hr.T⟩
      exact (Ris.put A hr _).trans A (atLW_low (V' := st.V) A h1 hk (A.lt hp hd)).1
    · rw [wkS_o hc, demW_put]
      exact Ris.put A hr _
    · obtain ⟨e1, rfl⟩ := wfS_inv_c h hc
      obtain ⟨d, ed, hd⟩ := isDB_nat e1
      rw [wkS_c hc, ed]
      exact (callW_low (X' := st.X) (k := i) A hr hd hp).1

/-- A look that raises stays below what fits. -/
theorem wkS_under (A : Lat n R) : ∀ (f i p q j : Nat) (st : WS), wfS c nv n np f i = (j, false) → p < n → InR n nv np st → Bel R n nv st.V V' → Bel R n np st.X X' → Bel R n np st.T T' → Le R n p q →
    Sat R n fx V' X' (wd c R n V' T' f i q).2.2 →
    Bel R n nv (wkS c R n fx true f false i p st).2.2.V V' ∧ Bel R n np (wkS c R n fx true f false i p st).2.2.X X' ∧ Le R n (wkS c R n fx true f false i p st).2.1 (wd c R n V' T' f i q).2.1 := by
  intro f
  induction f with
  | zero => intro i p q j st h; simp [wfS] at h
  | succ f ih =>
    intro i p q j st h hp hr hV hX hT hpq
    have hV' : ∀ k, k < nv → V' k < n := fun k hk => (hV k hk).2.2
    have hT' : ∀ k, k < np → T' k < n := fun k hk => (hT k hk).2.2
    rcases wfS_letter h with hc | hc | hc | hc | hc | hc | hc | hc
    · rcases hc with hc | hc
      · rw [wkS_dot hc, wd_dot hc]; exact fun _ => ⟨hV, hX, A.refl (bot_lt A.n1)⟩
      · rw [wkS_x hc, wd_x hc]; exact fun _ => ⟨hV, hX, hpq⟩
    · obtain ⟨k, e1, e2⟩ := wfS_inv_seq h hc
      obtain ⟨a1, a2, a3⟩ := wkS_ok (fx := fx) (low := true) A.L A.n1 f false (i + 1) p k st e1 hp hr
      have w1 := (wd_ok (c := c) A.L A.n1 hV' hT' f (i + 1) q k e1 hpq.2.2).1
      rw [wkS_seq hc, wd_seq hc, a1]
      simp only
      rw [w1]
      intro hs
      obtain ⟨b1, b2, b3⟩ := ih (i + 1) p q k st e1 hp hr hV hX hT hpq hs.fst
      have hri := wkS_rise (fx := fx) (c := c) A f (i + 1) p k st e1 hp hr
      obtain ⟨d1, d2, d3⟩ := ih k _ _ j _ e2 (A.lt hp a2) a3 b1 b2 (by rw [hri.T]; exact hT) (A.mono hpq b3) hs.snd
      refine ⟨d1, d2, ?_⟩
      split
      · exact A.mono b3 d3
      · exact d3
    · obtain ⟨e1, e2⟩ := wfS_inv_eq h hc
      obtain ⟨a1, a2, a3⟩ := condW_ok (c := c) A.L A.n1 hr.V hp e2
      obtain ⟨m1, m2, m3, m4⟩ := condW_mono (cs := c) A hV e2 hpq
      obtain ⟨k, ek, hk⟩ := isVar_nat e1
      rw [wkS_eq hc, wd_eq hc, ek]
      intro hs
      obtain ⟨b1, b2, b3, b4⟩ := atLW_low (V' := V') (fx := fx) (k := i) A hr (v := ((k : Int)).toNat) hk a2
      refine ⟨b3 hV (fun hf => A.trans m3 (hs.get hf)), by simp only; rw [b4]; exact hX, m4⟩
    · obtain ⟨k, m, e1, e2, e3⟩ := wfS_inv_i h hc
      obtain ⟨a1, a2, a3⟩ := condW_ok (c := c) A.L A.n1 hr.V hp e1
      obtain ⟨m1, m2, m3, m4⟩ := condW_mono (cs := c) A hV e1 hpq
      rw [wkS_i hc, wd_i hc]
      simp only
      rw [m1, m2]
      obtain ⟨b1, b2, b3⟩ := wkS_ok (fx := fx) (low := true) A.L A.n1 f false k _ m st e2 a2 hr
      have w1 := (wd_ok (c := c) A.L A.n1 hV' hT' f k _ m e2 m3.2.2).1
      rw [b1, w1]
      intro hs
      obtain ⟨d1, d2, d3⟩ := ih k _ _ m st e2 a2 hr hV hX hT m3 hs.fst
      have hri := wkS_rise (fx := fx) (c := c) A f k _ m st e2 a2 hr
      obtain ⟨f1, f2, f3⟩ := ih m _ _ j _ e3 a2 b3 d1 d2 (by rw [hri.T]; exact hT) m3 hs.snd
      exact ⟨f1, f2, A.mono m4 (A.mono d3 f3)⟩
    · obtain ⟨k, e1, e2⟩ := wfS_inv_w h hc
      obtain ⟨a1, a2, a3⟩ := condW_ok (c := c) A.L A.n1 hr.V hp e1
      obtain ⟨m1, m2, m3, m4⟩ := condW_mono (cs := c) A hV e1 hpq
      rw [wkS_w hc, wd_w hc]
      simp only
      rw [m1, m2, wkS_mute]
      simp only [Bool.false_eq_true, if_false]
      have hrr := A.mono m3 m4
      obtain ⟨w1, w2, w3, w4⟩ := wd_mono (c := c) A hV hT f k _ _ j e2 hrr
      intro hs
      obtain ⟨d1, d2, d3⟩ := ih k _ _ j st e2 (A.lt hrr.2.1 w3.2.1) hr hV hX hT (A.mono hrr w3) hs
      exact ⟨d1, d2, A.mono m4 w3⟩
    · obtain ⟨e1, e2, rfl⟩ := wfS_inv_r h hc
      obtain ⟨d, ed, hd⟩ := isDB_nat e1
      obtain ⟨k, ek, hk⟩ := isVar_nat e2
      rw [wkS_r hc, wd_r hc, ed, ek, demW_put]
      intro hs
      have h1 : InR n nv np (putB st (if R p ((d : Int)).toNat = false ∧ (st.bad < 0 ∨ (i : Int) < st.bad) then (i : Int) else st.bad)) := ⟨hr.V, hr.X, hr.T⟩
      obtain ⟨b1, b2, b3, b4⟩ := atLW_low (V' := V') (fx := fx) (k := i) A h1 (v := ((k : Int)).toNat) hk (A.lt hp hd)
      have hm := A.mono hpq (A.refl hd)
      refine ⟨b3 hV (fun hf => A.trans hm (hs ⟨i, jn R n q d, .var k⟩ (by simp) hf)), ?_, hm⟩
      have e4 : (atLW R n fx true false (putB st (if R p ((d : Int)).toNat = false ∧ (st.bad < 0 ∨ (i : Int) < st.bad) then (i : Int) else st.bad)) ((k : Int)).toNat (jn R n p ((d : Int)).toNat) i).X = st.X := b4
      simp only
      rw [e4]; exact hX
    · obtain ⟨e1, e2⟩ := wfS_inv_o h hc
      obtain ⟨m1, m2, m3, m4⟩ := condW_mono (cs := c) A hV e2 hpq
      rw [wkS_o hc, wd_o hc, demW_put]
      exact fun _ => ⟨hV, hX, m4⟩
    · obtain ⟨e1, rfl⟩ := wfS_inv_c h hc
      obtain ⟨d, ed, hd⟩ := isDB_nat e1
      rw [wkS_c hc, wd_c hc, ed]
      intro hs
      obtain ⟨b1, b2, b3, b4⟩ := callW_low (X' := X') (fx := fx) (k := i) A hr (v := ((d : Int)).toNat) hd hp
      refine ⟨?_, b3 hX (A.trans hpq (hs.get trivial)), A.mono hpq (hT d hd)⟩
      simp only
      rw [b4]; exact hV

/-- A look that raises: nothing was to be raised, or something was. -/
theorem wkS_still (A : Lat n R) : ∀ (f i p j : Nat) (st : WS), wfS c nv n np f i = (j, false) → p < n → InR n nv np st →
    SR R n nv np st (wkS c R n fx true f false i p st).2.2 ((wkS c R n fx true f false i p st).2.1 = (wd c R n st.V st.T f i p).2.1 ∧ Sat R n fx st.V st.X (wd c R n st.V st.T f i p).2.2) := by
  intro f
  induction f with
  | zero => intro i p j st h; simp [wfS] at h
  | succ f ih =>
    intro i p j st h hp hr
    rcases wfS_letter h with hc | hc | hc | hc | hc | hc | hc | hc
    · rcases hc with hc | hc
      · rw [wkS_dot hc, wd_dot hc]; exact Or.inl ⟨⟨st.bad, rfl⟩, rfl, Sat.nil⟩
      · rw [wkS_x hc, wd_x hc]; exact Or.inl ⟨⟨st.bad, rfl⟩, rfl, Sat.nil⟩
    · obtain ⟨k, e1, e2⟩ := wfS_inv_seq h hc
      obtain ⟨a1, a2, a3⟩ := wkS_ok (fx := fx) (low := true) A.L A.n1 f false (i + 1) p k st e1 hp hr
      have hri := wkS_rise (fx := fx) (c := c) A f (i + 1) p k st e1 hp hr
      have hri2 := wkS_rise (fx := fx) (c := c) A f k _ j _ e2 (A.lt hp a2) a3
      have w1 := (wd_ok (c := c) A.L A.n1 hr.V hr.T f (i + 1) p k e1 hp).1
      rw [wkS_seq hc, wd_seq hc, a1]
      simp only
      rw [w1]
      rcases ih (i + 1) p k st e1 hp hr with ⟨⟨b, eb⟩, g1, g2⟩ | ⟨g1, g2⟩
      · have h1 : InR n nv np (putB st b) := ⟨hr.V, hr.X, hr.T⟩
        rcases ih k (jn R n p (wkS c R n fx true f false (i + 1) p st).2.1) j (putB st b) e2 (A.lt hp a2) h1 with ⟨⟨b', eb'⟩, f1, f2⟩ | ⟨f1, f2⟩
        · rw [eb]
          rw [g1] at eb' f1 f2
          refine Or.inl ⟨⟨b', by rw [g1]; exact eb'⟩, ?_, g2.app f2⟩
          rw [g1, f1]; rfl
        · rw [eb]; exact Or.inr ⟨f1, f2⟩
      · exact Or.inr ⟨hri2.ra g1, Nat.lt_of_lt_of_le g2 (hri2.mH A a3)⟩
    · obtain ⟨e1, e2⟩ := wfS_inv_eq h hc
      obtain ⟨a1, a2, a3⟩ := condW_ok (c := c) A.L A.n1 hr.V hp e2
      obtain ⟨k, ek, hk⟩ := isVar_nat e1
      rw [wkS_eq hc, wd_eq hc, ek]
      rcases (atLW_low (V' := st.V) (fx := fx) (k := i) A hr (v := ((k : Int)).toNat) hk a2).2.1 with ⟨g1, g2⟩ | g
      · exact Or.inl ⟨g1, rfl, Sat.one g2⟩
      · exact Or.inr g
    · obtain ⟨k, m, e1, e2, e3⟩ := wfS_inv_i h hc
      obtain ⟨a1, a2, a3⟩ := condW_ok (c := c) A.L A.n1 hr.V hp e1
      rw [wkS_i hc, wd_i hc]
      simp only
      rw [a1]
      obtain ⟨b1, b2, b3⟩ := wkS_ok (fx := fx) (low := true) A.L A.n1 f false k _ m st e2 a2 hr
      have w1 := (wd_ok (c := c) A.L A.n1 hr.V hr.T f k _ m e2 a2).1
      rw [b1, w1]
      have hri2 := wkS_rise (fx := fx) (c := c) A f m _ j _ e3 a2 b3
      rcases ih k _ m st e2 a2 hr with ⟨⟨b, eb⟩, g1, g2⟩ | ⟨g1, g2⟩
      · have h1 : InR n nv np (putB st b) := ⟨hr.V, hr.X, hr.T⟩
        rw [eb]
        rcases ih m _ j (putB st b) e3 a2 h1 with ⟨⟨b', eb'⟩, f1, f2⟩ | ⟨f1, f2⟩
        · refine Or.inl ⟨⟨b', eb'⟩, ?_, g2.app f2⟩
          rw [g1, f1]; rfl
        · exact Or.inr ⟨f1, f2⟩
      · exact Or.inr ⟨hri2.ra g1, Nat.lt_of_lt_of_le g2 (hri2.mH A b3)⟩
    · obtain ⟨k, e1, e2⟩ := wfS_inv_w h hc
      obtain ⟨a1, a2, a3⟩ := condW_ok (c := c) A.L A.n1 hr.V hp e1
      rw [wkS_w hc, wd_w hc]
      simp only
      rw [a1, wkS_mute]
      simp only [Bool.false_eq_true, if_false]
      have hrr := A.lt a2 a3
      have hd := wd_ok (c := c) A.L A.n1 hr.V hr.T f k _ j e2 hrr
      rcases ih k _ j st e2 (A.lt hrr hd.2.1) hr with ⟨g0, g1, g2⟩ | g
      · exact Or.inl ⟨g0, trivial, g2⟩
      · exact Or.inr g
    · obtain ⟨e1, e2, rfl⟩ := wfS_inv_r h hc
      obtain ⟨d, ed, hd⟩ := isDB_nat e1
      obtain ⟨k, ek, hk⟩ := isVar_nat e2
      rw [wkS_r hc, wd_r hc, ed, ek, demW_put]
      have h1 : InR n nv np (putB st (if R p ((d : Int)).toNat = false ∧ (st.bad < 0 ∨ (i : Int) < st.bad) then (i : Int) else st.bad)) := ⟨hr.V, hr.X, hr.T⟩
      rcases (atLW_low (V' := st.V) (fx := fx) (k := i) A h1 (v := ((k : Int)).toNat) hk (A.lt hp hd)).2.1 with ⟨⟨b, g1⟩, g2⟩ | g
      · refine Or.inl ⟨⟨b, by simp only; rw [show (d : Int).toNat = d from rfl] at g1 ⊢; rw [g1]; rfl⟩, rfl, (Sat.lev (i := i) (a := p) (d := d)).app (Sat.one g2)⟩
      · exact Or.inr g
    · rw [wkS_o hc, wd_o hc, demW_put]
      exact Or.inl ⟨⟨_, rfl⟩, rfl, Sat.lev⟩
    · obtain ⟨e1, rfl⟩ := wfS_inv_c h hc
      obtain ⟨d, ed, hd⟩ := isDB_nat e1
      rw [wkS_c hc, wd_c hc, ed]
      rcases (callW_low (X' := st.X) (fx := fx) (k := i) A hr (v := ((d : Int)).toNat) hd hp).2.1 with ⟨g1, g2⟩ | g
      · exact Or.inl ⟨g1, rfl, Sat.one (fun _ => g2)⟩
      · exact Or.inr g
end

end Go.Proofs.YtfcflnnleadpkaaGreat

namespace Go.Proofs.YtfcflnnleadpkaaGreat
open Go.RowKit
variable {E : Env} {w : World} {mute : Bool} {st : WS} {f i j p : Nat}

/-- What stays true throughout a look. -/
structure EnvOk (E : Env) : Prop where
  S : Sep E
  L : Lattice E.n E.R
  n1 : 1 ≤ E.n
  n8 : E.n ≤ 8
  sz : E.s.size ≤ 300
  nv : E.nv ≤ 8
  np : E.np ≤ 4
def wk (E : Env) (f : Nat) (mute : Bool) (i p : Nat) (st : WS) : Nat × Nat × WS := wkS (bt E.s) E.R E.n (fixV (bt E.s) E.n) E.low f mute i p st
def wf0 (E : Env) (f i : Nat) : Nat × Bool := wfS (bt E.s) E.nv E.n E.np f i
def tup2 (a b : Nat) : Value := .tuple #[.int .i64 (a : Int), .int .i64 (b : Int)]
theorem wk_ok (K : EnvOk E) (h : wf0 E f i = (j, false)) (hp : p < E.n) (hr : InR E.n E.nv E.np st) : (wk E f mute i p st).1 = j ∧ (wk E f mute i p st).2.1 < E.n ∧ InR E.n E.nv E.np (wk E f mute i p st).2.2 :=
  wkS_ok K.L K.n1 f mute i p j st h hp hr
/-- A statement is looked at as it should be. -/
def WOk (E : Env) (f : Nat) : Prop := ∀ (w : World) (mute : Bool) (st : WS) (i p j : Nat), At E w mute st → InR E.n E.nv E.np st → wf0 E f i = (j, false) → p < E.n → i < E.s.size →
    Calls Tryz.prog 31 #[.pointer (some ⟨E.wb, 0, none⟩), .int .i64 (i : Int), .int .i64 (p : Int)] w fun e w' => e = .returned (tup2 (wk E f mute i p st).1 (wk E f mute i p st).2.1) ∧ At E w' mute (wk E f mute i p st).2.2 ∧ Fr E w w'

def loopSt (E : Env) (f : Nat) (mute : Bool) (i r : Nat) (st : WS) : WS := if mute = true then (wk E f true i r st).2.2 else (wk E f false i (jn E.R E.n r (wk E f true i r st).2.1) (wk E f true i r st).2.2).2.2

set_option maxHeartbeats 1000000 in
set_option maxRecDepth 10000 in
theorem wloop_any (K : EnvOk E) (IH : Hid (WOk E f)) (h : At E w mute st) (hr : InR E.n E.nv E.np st) {r : Nat} (hf : wf0 E f i = (j, false)) (hrn : r < E.n) (hi : i < E.s.size) :
    Calls Tryz.prog 65 #[.pointer (some ⟨E.wb, 0, none⟩), .int .i64 (i : Int), .int .i64 (r : Int)] w fun e w' => e = .returned (tup2 (wk E f true i r st).1 (wk E f true i r st).2.1) ∧ At E w' mute (loopSt E f mute i r st) ∧ Fr E w w' := by
  have k4 := h.cMu
  have kz := h.fz 4
  have HT := hide (h.turn K.S 4 (.bool true) st.ra true st.bad rfl)
  have HO := hide (wk_ok (mute := true) K hf hrn hr)
  have HF := hide hf
  have HR := hide hr
  have HL := hide (show loopSt E f mute i r st = if mute = true then (wk E f true i r st).2.2 else (wk E f false i (jn E.R E.n r (wk E f true i r st).2.1) (wk E f true i r st).2.2).2.2 from rfl)
  clear h hf hr
  go_enter Tryz.func65, Tryz.ntmps65
  go_wp2_with fail
  refine (unhide IH _ true st i r j (unhide HT).1 (unhide HR) (unhide HF) hrn hi).mono ?_
  rintro e w1 ⟨rfl, ha, hfr⟩
  obtain ⟨x, HX⟩ : ∃ x, Hid (wk E f true i r st = x) := ⟨_, rfl⟩
  rw [unhide HX] at HO ha HL
  rw [unhide HX]
  obtain ⟨x1, x2, x3⟩ := x
  have y4 := ha.cMu
  have yz := ha.fz 4
  have HA := hide ha
  have HFR := hide ((unhide HT).2.trans hfr)
  have HT2 := hide (ha.turn K.S 4 (.bool mute) x3.ra mute x3.bad rfl)
  have z4 := (unhide HT2).1.cMu
  clear ha hfr
  simp only [tup2]
  cases mute
  · have HJ := hide (K.L.jn_lt hrn (unhide HO).2.1)
    go_wp2_with fail
    refine (wjoin_any K.L K.n8 (unhide HT2).1 hrn (unhide HO).2.1).mono ?_
    rintro e w3 ⟨rfl, rfl⟩
    go_wp2_with fail
    refine (unhide IH _ false x3 i _ j (unhide HT2).1 (unhide HO).2.2 (unhide HF) (unhide HJ).1 hi).mono ?_
    rintro e w4 ⟨rfl, ha4, hfr4⟩
    have HA4 := hide ha4
    have HF4 := hide (((unhide HFR).trans (unhide HT2).2).trans hfr4)
    clear ha4 hfr4
    go_wp2_with fail
    go_ret2
    exact ⟨by rw [unhide HX]; rfl, by rw [unhide HL]; exact unhide HA4, unhide HF4⟩
  · go_wp2_with fail
    go_ret2
    exact ⟨by rw [unhide HX]; rfl, by rw [unhide HL]; exact (unhide HT2).1, (unhide HFR).trans (unhide HT2).2⟩

theorem scE_lt {s : ByteArray} {nv f i j : Nat} (h : scE (bt s) nv f i = (j, false)) : i < s.size ∧ j ≤ s.size := by
  cases f with
  | zero => simp [scE] at h
  | succ f =>
    have hi : i < s.size := by
      cases ho : isOp (bt s i)
      · obtain ⟨_, h2 | ⟨_, h3⟩⟩ := scE_inv_leaf h ho
        · exact isDB_lt h2
        · exact isVar_lt h3
      · exact isOp_lt ho
    have h2 := scE_sz s nv (f + 1) i (by omega)
    rw [h] at h2
    exact ⟨hi, h2⟩
theorem wfS_lt {s : ByteArray} {nv N np : Nat} : ∀ (f i j : Nat), wfS (bt s) nv N np f i = (j, false) → i < s.size ∧ j ≤ s.size := by
  intro f
  induction f with
  | zero => intro i j h; simp [wfS] at h
  | succ f ih =>
    intro i j h
    have hl := wfS_letter h
    have hi : i < s.size := bt_lt (by omega)
    refine ⟨hi, ?_⟩
    rcases hl with hc | hc | hc | hc | hc | hc | hc | hc
    · rw [wfS_inv_plain h hc]; exact hi
    · obtain ⟨k, _, e2⟩ := wfS_inv_seq h hc; exact (ih _ _ e2).2
    · exact (scE_lt (wfS_inv_eq h hc).2).2
    · obtain ⟨k, m, _, _, e3⟩ := wfS_inv_i h hc; exact (ih _ _ e3).2
    · obtain ⟨k, _, e2⟩ := wfS_inv_w h hc; exact (ih _ _ e2).2
    · obtain ⟨_, e2, rfl⟩ := wfS_inv_r h hc; have := isVar_lt e2; omega
    · exact (scE_lt (wfS_inv_o h hc).2).2
    · obtain ⟨e1, rfl⟩ := wfS_inv_c h hc; have := isDB_lt e1; omega

/-- What a look at one statement is to come to. -/
def Looks (E : Env) (f : Nat) (w : World) (mute : Bool) (st : WS) (i p : Nat) : Prop :=
    Calls Tryz.prog 31 #[.pointer (some ⟨E.wb, 0, none⟩), .int .i64 (i : Int), .int .i64 (p : Int)] w fun e w' => e = .returned (tup2 (wk E f mute i p st).1 (wk E f mute i p st).2.1) ∧ At E w' mute (wk E f mute i p st).2.2 ∧ Fr E w w'

set_option maxHeartbeats 2000000 in
set_option maxRecDepth 100000 in
theorem wstmt_plain (K : EnvOk E) (h : At E w mute st) (hc : bt E.s i = 46 ∨ bt E.s i = 120) : Looks E (f + 1) w mute st i p := by
  unfold Looks
  have hi : i < E.s.size := bt_lt (by omega)
  have hs := K.sz
  have hbq := bt_eq E.s i hi
  have hi' : (i : Int) < (E.s.size : Int) := by omega
  have k0 := h.cP
  have kS := h.cS
  have kO := h.cO
  have HN := hide (show At E w mute st ∧ Fr E w w from ⟨h, Fr.refl _ _⟩)
  have HO := hide h.ord
  clear h
  rcases hc with hc | hc
  · have HE := hide (show wk E (f + 1) mute i p st = (i + 1, bot E.R E.n, st) from wkS_dot hc)
    rw [hc] at hbq
    clear hc
    go_enter Tryz.func31, Tryz.ntmps31
    go_wp2_with fail
    refine (Bottom_any _ _ _ _ _ _ _ K.n8 (unhide HO)).mono ?_
    rintro e w' ⟨rfl, rfl⟩
    go_wp2_with fail
    go_ret2
    exact ⟨by rw [unhide HE]; go_num, by rw [unhide HE]; exact unhide HN⟩
  · have HE := hide (show wk E (f + 1) mute i p st = (i + 1, p, st) from wkS_x hc)
    rw [hc] at hbq
    clear hc
    go_enter Tryz.func31, Tryz.ntmps31
    go_wp2_with fail
    refine (Bottom_any _ _ _ _ _ _ _ K.n8 (unhide HO)).mono ?_
    rintro e w' ⟨rfl, rfl⟩
    go_wp2_with fail
    go_ret2
    exact ⟨by rw [unhide HE]; go_num, by rw [unhide HE]; exact unhide HN⟩

end Go.Proofs.YtfcflnnleadpkaaGreat

namespace Go.Proofs.YtfcflnnleadpkaaGreat
open Go.RowKit
variable {E : Env} {w : World} {mute : Bool} {st : WS} {f i j p : Nat}

set_option maxHeartbeats 2000000 in
set_option maxRecDepth 100000 in
theorem wstmt_seq (K : EnvOk E) (IH : Hid (WOk E f)) (h : At E w mute st) (hr : InR E.n E.nv E.np st) (hf : wf0 E (f + 1) i = (j, false)) (hp : p < E.n) (hc : bt E.s i = 44 ∨ bt E.s i = 116) : Looks E (f + 1) w mute st i p := by
  unfold Looks
  obtain ⟨k, e1, e2⟩ := wfS_inv_seq hf hc
  have hi : i < E.s.size := bt_lt (by omega)
  have hs := K.sz
  have hbq := bt_eq E.s i hi
  have hi' : (i : Int) < (E.s.size : Int) := by omega
  have hi1 := (wfS_lt _ _ _ e1).1
  have hk1 := (wfS_lt _ _ _ e2).1
  have E1 := hide (show wf0 E f (i + 1) = (k, false) from e1)
  have E2 := hide (show wf0 E f k = (j, false) from e2)
  have HO1 := hide (wk_ok (mute := mute) (p := p) K (unhide E1) hp hr)
  have HE := hide (show wk E (f + 1) mute i p st = _ from wkS_seq hc)
  have k0 := h.cP
  have kS := h.cS
  have kO := h.cO
  have HH := hide h
  have HO := hide h.ord
  have HR := hide hr
  clear h hr hf e1 e2
  obtain ⟨x, HX⟩ : ∃ x, Hid (wk E f mute (i + 1) p st = x) := ⟨_, rfl⟩
  have HX' := hide (show wkS (bt E.s) E.R E.n (fixV (bt E.s) E.n) E.low f mute (i + 1) p st = x from unhide HX)
  simp only [unhide HX, unhide HX'] at HO1 HE
  obtain ⟨x1, x2, x3⟩ := x
  have hx1 : x1 = k := (unhide HO1).1
  subst hx1
  have HJ := hide (K.L.jn_lt hp (unhide HO1).2.1)
  have HO2 := hide (wk_ok (mute := mute) K (unhide E2) (unhide HJ).1 (unhide HO1).2.2)
  obtain ⟨y, HY⟩ : ∃ y, Hid (wk E f mute x1 (jn E.R E.n p x2) x3 = y) := ⟨_, rfl⟩
  have HY' := hide (show wkS (bt E.s) E.R E.n (fixV (bt E.s) E.n) E.low f mute x1 (jn E.R E.n p x2) x3 = y from unhide HY)
  simp only [unhide HY, unhide HY'] at HO2 HE
  obtain ⟨y1, y2, y3⟩ := y
  rcases hc with hc | hc
  · have HE2 := hide (show wk E (f + 1) mute i p st = (y1, jn E.R E.n x2 y2, y3) by rw [unhide HE, if_pos hc])
    rw [hc] at hbq
    clear hc
    go_enter Tryz.func31, Tryz.ntmps31
    go_wp2_with fail
    refine (Bottom_any _ _ _ _ _ _ _ K.n8 (unhide HO)).mono ?_
    rintro e w' ⟨rfl, rfl⟩
    go_wp2_with fail
    rw [show (i : Int) + 1 = ((i + 1 : Nat) : Int) by omega]
    refine (unhide IH _ mute st (i + 1) p x1 (unhide HH) (unhide HR) (unhide E1) hp hi1).mono ?_
    rintro e w1 ⟨rfl, ha, hfr⟩
    rw [unhide HX] at ha
    rw [unhide HX]
    simp only [tup2]
    have HA := hide ha
    have HFR := hide hfr
    have q0 := ha.cP
    have qS := ha.cS
    clear ha hfr
    go_wp2_with fail
    refine (wjoin_any K.L K.n8 (unhide HA) hp (unhide HO1).2.1).mono ?_
    rintro e w3 ⟨rfl, rfl⟩
    go_wp2_with fail
    refine (unhide IH _ mute x3 x1 _ j (unhide HA) (unhide HO1).2.2 (unhide E2) (unhide HJ).1 hk1).mono ?_
    rintro e w4 ⟨rfl, ha4, hfr4⟩
    rw [unhide HY] at ha4
    rw [unhide HY]
    simp only [tup2]
    have HA4 := hide ha4
    have HF4 := hide ((unhide HFR).trans hfr4)
    clear ha4 hfr4
    go_wp2_with fail
    refine (wjoin_any K.L K.n8 (unhide HA4) (unhide HO1).2.1 (unhide HO2).2.1).mono ?_
    rintro e w5 ⟨rfl, rfl⟩
    go_wp2_with fail
    go_ret2
    exact ⟨by rw [unhide HE2]; rfl, by rw [unhide HE2]; exact ⟨unhide HA4, unhide HF4⟩⟩
  · have HE2 := hide (show wk E (f + 1) mute i p st = (y1, y2, y3) by rw [unhide HE, if_neg (by omega)])
    rw [hc] at hbq
    clear hc
    go_enter Tryz.func31, Tryz.ntmps31
    go_wp2_with fail
    refine (Bottom_any _ _ _ _ _ _ _ K.n8 (unhide HO)).mono ?_
    rintro e w' ⟨rfl, rfl⟩
    go_wp2_with fail
    rw [show (i : Int) + 1 = ((i + 1 : Nat) : Int) by omega]
    refine (unhide IH _ mute st (i + 1) p x1 (unhide HH) (unhide HR) (unhide E1) hp hi1).mono ?_
    rintro e w1 ⟨rfl, ha, hfr⟩
    rw [unhide HX] at ha
    rw [unhide HX]
    simp only [tup2]
    have HA := hide ha
    have HFR := hide hfr
    clear ha hfr
    go_wp2_with fail
    refine (wjoin_any K.L K.n8 (unhide HA) hp (unhide HO1).2.1).mono ?_
    rintro e w3 ⟨rfl, rfl⟩
    go_wp2_with fail
    refine (unhide IH _ mute x3 x1 _ j (unhide HA) (unhide HO1).2.2 (unhide E2) (unhide HJ).1 hk1).mono ?_
    rintro e w4 ⟨rfl, ha4, hfr4⟩
    rw [unhide HY] at ha4
    rw [unhide HY]
    simp only [tup2]
    have HA4 := hide ha4
    have HF4 := hide ((unhide HFR).trans hfr4)
    clear ha4 hfr4
    go_wp2_with fail
    go_ret2
    exact ⟨by rw [unhide HE2]; rfl, by rw [unhide HE2]; exact ⟨unhide HA4, unhide HF4⟩⟩

set_option maxHeartbeats 2000000 in
set_option maxRecDepth 100000 in
theorem wstmt_eq (K : EnvOk E) (h : At E w mute st) (hr : InR E.n E.nv E.np st) (hf : wf0 E (f + 1) i = (j, false)) (hp : p < E.n) (hc : bt E.s i = 61) : Looks E (f + 1) w mute st i p := by
  unfold Looks
  obtain ⟨e1, e2⟩ := wfS_inv_eq hf hc
  have hi : i < E.s.size := bt_lt (by omega)
  have hs := K.sz
  have hbq := bt_eq E.s i hi
  have hi' : (i : Int) < (E.s.size : Int) := by omega
  have hi1 := isVar_lt e1
  have hi1' : (i : Int) + 1 < (E.s.size : Int) := by omega
  have hb1 := bt_eq E.s (i + 1) hi1
  have E2 := hide e2
  obtain ⟨k, ek, hk⟩ := isVar_nat e1
  have HC := hide (condW_ok (c := bt E.s) K.L K.n1 hr.V hp e2)
  have HE := hide (show wk E (f + 1) mute i p st = _ from wkS_eq hc)
  have HEK := hide (show (bt E.s (i + 1) - 97).toNat = k by omega)
  have hb1' : (E.s[i + 1].toNat : Int) = (k : Int) + 97 := by omega
  have hk8 : (k : Int) ≤ 8 := by have := K.nv; omega
  have k0 := h.cP
  have kS := h.cS
  have kO := h.cO
  have HH := hide h
  have HO := hide h.ord
  have HR := hide hr
  rw [hc] at hbq
  clear h hr hf e1 e2 hb1 ek hc
  rw [unhide HEK] at HE
  obtain ⟨x, HX⟩ : ∃ x, Hid (condW (bt E.s) E.R E.n st.V f (i + 2) p = x) := ⟨_, rfl⟩
  simp only [unhide HX] at HC HE
  obtain ⟨x1, x2, x3⟩ := x
  go_enter Tryz.func31, Tryz.ntmps31
  go_wp2_with fail
  refine (Bottom_any _ _ _ _ _ _ _ K.n8 (unhide HO)).mono ?_
  rintro e w' ⟨rfl, rfl⟩
  go_wp2_with fail
  rw [show (i : Int) + 2 = ((i + 2 : Nat) : Int) by omega]
  refine (wcond_any K.L K.n1 K.n8 K.sz K.nv (unhide HR) f _ (i + 2) j p (unhide HH) (unhide E2) hp).mono ?_
  rintro e w1 ⟨rfl, q, rfl⟩
  rw [unhide HX]
  simp only [tup3]
  go_wp2_with fail
  refine (atLeast_any K.S K.L K.n8 ((unhide HH).drewN q) (unhide HR) hk K.nv (unhide HC).2.1).mono ?_
  rintro e w3 ⟨rfl, ha, hfr⟩
  have HA := hide ha
  have HFR := hide ((Fr.drewN (Fr.refl E _) q).trans hfr)
  clear ha hfr
  go_wp2_with fail
  go_ret2
  exact ⟨by rw [unhide HE]; rfl, by rw [unhide HE]; exact ⟨unhide HA, unhide HFR⟩⟩

set_option maxHeartbeats 2000000 in
set_option maxRecDepth 100000 in
theorem wstmt_i (K : EnvOk E) (IH : Hid (WOk E f)) (h : At E w mute st) (hr : InR E.n E.nv E.np st) (hf : wf0 E (f + 1) i = (j, false)) (hp : p < E.n) (hc : bt E.s i = 105) : Looks E (f + 1) w mute st i p := by
  unfold Looks
  obtain ⟨k, m, e1, e2, e3⟩ := wfS_inv_i hf hc
  have hi : i < E.s.size := bt_lt (by omega)
  have hs := K.sz
  have hbq := bt_eq E.s i hi
  have hi' : (i : Int) < (E.s.size : Int) := by omega
  have hk1 := (wfS_lt _ _ _ e2).1
  have hm1 := (wfS_lt _ _ _ e3).1
  have E1 := hide e1
  have E2 := hide (show wf0 E f k = (m, false) from e2)
  have E3 := hide (show wf0 E f m = (j, false) from e3)
  have HC := hide (condW_ok (c := bt E.s) K.L K.n1 hr.V hp e1)
  have HE := hide (show wk E (f + 1) mute i p st = _ from wkS_i hc)
  have k0 := h.cP
  have kS := h.cS
  have kO := h.cO
  have HH := hide h
  have HO := hide h.ord
  have HR := hide hr
  rw [hc] at hbq
  clear h hr hf e1 e2 e3 hc
  obtain ⟨x, HX⟩ : ∃ x, Hid (condW (bt E.s) E.R E.n st.V f (i + 1) p = x) := ⟨_, rfl⟩
  simp only [unhide HX] at HC HE
  obtain ⟨x1, x2, x3⟩ := x
  have hx1 : x1 = k := (unhide HC).1
  subst hx1
  have HO1 := hide (wk_ok (mute := mute) K (unhide E2) (unhide HC).2.1 (unhide HR))
  obtain ⟨y, HY⟩ : ∃ y, Hid (wk E f mute x1 x2 st = y) := ⟨_, rfl⟩
  have HY' := hide (show wkS (bt E.s) E.R E.n (fixV (bt E.s) E.n) E.low f mute x1 x2 st = y from unhide HY)
  simp only [unhide HY, unhide HY'] at HO1 HE
  obtain ⟨y1, y2, y3⟩ := y
  have hy1 : y1 = m := (unhide HO1).1
  subst hy1
  have HO2 := hide (wk_ok (mute := mute) K (unhide E3) (unhide HC).2.1 (unhide HO1).2.2)
  obtain ⟨z, HZ⟩ : ∃ z, Hid (wk E f mute y1 x2 y3 = z) := ⟨_, rfl⟩
  have HZ' := hide (show wkS (bt E.s) E.R E.n (fixV (bt E.s) E.n) E.low f mute y1 x2 y3 = z from unhide HZ)
  simp only [unhide HZ, unhide HZ'] at HO2 HE
  obtain ⟨z1, z2, z3⟩ := z
  have HJ := hide (K.L.jn_lt (unhide HO1).2.1 (unhide HO2).2.1)
  go_enter Tryz.func31, Tryz.ntmps31
  go_wp2_with fail
  refine (Bottom_any _ _ _ _ _ _ _ K.n8 (unhide HO)).mono ?_
  rintro e w' ⟨rfl, rfl⟩
  go_wp2_with fail
  rw [show (i : Int) + 1 = ((i + 1 : Nat) : Int) by omega]
  refine (wcond_any K.L K.n1 K.n8 K.sz K.nv (unhide HR) f _ (i + 1) x1 p (unhide HH) (unhide E1) hp).mono ?_
  rintro e w1 ⟨rfl, q, rfl⟩
  rw [unhide HX]
  simp only [tup3]
  go_wp2_with fail
  refine (unhide IH _ mute st x1 x2 y1 ((unhide HH).drewN q) (unhide HR) (unhide E2) (unhide HC).2.1 hk1).mono ?_
  rintro e w3 ⟨rfl, ha, hfr⟩
  rw [unhide HY] at ha
  rw [unhide HY]
  simp only [tup2]
  have HA := hide ha
  have HFR := hide ((Fr.drewN (Fr.refl E _) q).trans hfr)
  clear ha hfr
  go_wp2_with fail
  refine (unhide IH _ mute y3 y1 x2 j (unhide HA) (unhide HO1).2.2 (unhide E3) (unhide HC).2.1 hm1).mono ?_
  rintro e w4 ⟨rfl, ha4, hfr4⟩
  rw [unhide HZ] at ha4
  rw [unhide HZ]
  simp only [tup2]
  have HA4 := hide ha4
  have HF4 := hide ((unhide HFR).trans hfr4)
  clear ha4 hfr4
  go_wp2_with fail
  refine (wjoin_any K.L K.n8 (unhide HA4) (unhide HO1).2.1 (unhide HO2).2.1).mono ?_
  rintro e w5 ⟨rfl, rfl⟩
  go_wp2_with fail
  refine (wjoin_any K.L K.n8 (unhide HA4) (unhide HC).2.2 (unhide HJ).1).mono ?_
  rintro e w5 ⟨rfl, rfl⟩
  go_wp2_with fail
  go_ret2
  exact ⟨by rw [unhide HE]; rfl, by rw [unhide HE]; exact ⟨unhide HA4, unhide HF4⟩⟩

set_option maxHeartbeats 2000000 in
set_option maxRecDepth 100000 in
theorem wstmt_w (K : EnvOk E) (IH : Hid (WOk E f)) (h : At E w mute st) (hr : InR E.n E.nv E.np st) (hf : wf0 E (f + 1) i = (j, false)) (hp : p < E.n) (hc : bt E.s i = 119) : Looks E (f + 1) w mute st i p := by
  unfold Looks
  obtain ⟨k, e1, e2⟩ := wfS_inv_w hf hc
  have hi : i < E.s.size := bt_lt (by omega)
  have hs := K.sz
  have hbq := bt_eq E.s i hi
  have hi' : (i : Int) < (E.s.size : Int) := by omega
  have hk1 := (wfS_lt _ _ _ e2).1
  have E1 := hide e1
  have E2 := hide (show wf0 E f k = (j, false) from e2)
  have HC := hide (condW_ok (c := bt E.s) K.L K.n1 hr.V hp e1)
  have HE := hide (show wk E (f + 1) mute i p st = _ from wkS_w hc)
  have k0 := h.cP
  have kS := h.cS
  have kO := h.cO
  have HH := hide h
  have HO := hide h.ord
  have HR := hide hr
  rw [hc] at hbq
  clear h hr hf e1 e2 hc
  obtain ⟨x, HX⟩ : ∃ x, Hid (condW (bt E.s) E.R E.n st.V f (i + 1) p = x) := ⟨_, rfl⟩
  simp only [unhide HX] at HC HE
  obtain ⟨x1, x2, x3⟩ := x
  have hx1 : x1 = k := (unhide HC).1
  subst hx1
  have HJ := hide (K.L.jn_lt (unhide HC).2.1 (unhide HC).2.2)
  have HO1 := hide (wk_ok (mute := true) K (unhide E2) (unhide HJ).1 (unhide HR))
  have HE2 := hide (show wk E (f + 1) mute i p st = ((wk E f true x1 (jn E.R E.n x2 x3) st).1, jn E.R E.n x3 (wk E f true x1 (jn E.R E.n x2 x3) st).2.1, loopSt E f mute x1 (jn E.R E.n x2 x3) st) from unhide HE)
  go_enter Tryz.func31, Tryz.ntmps31
  go_wp2_with fail
  refine (Bottom_any _ _ _ _ _ _ _ K.n8 (unhide HO)).mono ?_
  rintro e w' ⟨rfl, rfl⟩
  go_wp2_with fail
  rw [show (i : Int) + 1 = ((i + 1 : Nat) : Int) by omega]
  refine (wcond_any K.L K.n1 K.n8 K.sz K.nv (unhide HR) f _ (i + 1) x1 p (unhide HH) (unhide E1) hp).mono ?_
  rintro e w1 ⟨rfl, q, rfl⟩
  rw [unhide HX]
  simp only [tup3]
  go_wp2_with fail
  refine (wjoin_any K.L K.n8 ((unhide HH).drewN q) (unhide HC).2.1 (unhide HC).2.2).mono ?_
  rintro e w5 ⟨rfl, rfl⟩
  go_wp2_with fail
  refine (wloop_any K IH ((unhide HH).drewN q) (unhide HR) (unhide E2) (unhide HJ).1 hk1).mono ?_
  rintro e w3 ⟨rfl, ha, hfr⟩
  simp only [tup2]
  have HA := hide ha
  have HFR := hide ((Fr.drewN (Fr.refl E _) q).trans hfr)
  clear ha hfr
  generalize wk E f true x1 (jn E.R E.n x2 x3) st = y at *
  obtain ⟨y1, y2, y3⟩ := y
  go_wp2_with fail
  refine (wjoin_any K.L K.n8 (unhide HA) (unhide HC).2.2 (unhide HO1).2.1).mono ?_
  rintro e w5 ⟨rfl, rfl⟩
  go_wp2_with fail
  go_ret2
  exact ⟨by rw [unhide HE2]; rfl, by rw [unhide HE2]; exact ⟨unhide HA, unhide HFR⟩⟩

set_option maxHeartbeats 2000000 in
set_option maxRecDepth 100000 in
theorem wstmt_c (K : EnvOk E) (h : At E w mute st) (hr : InR E.n E.nv E.np st) (hf : wf0 E (f + 1) i = (j, false)) (hp : p < E.n) (hc : bt E.s i = 99) : Looks E (f + 1) w mute st i p := by
  unfold Looks
  obtain ⟨e1, rfl⟩ := wfS_inv_c hf hc
  have hi : i < E.s.size := bt_lt (by omega)
  have hs := K.sz
  have hbq := bt_eq E.s i hi
  have hi' : (i : Int) < (E.s.size : Int) := by omega
  have hi1 := isDB_lt e1
  have hi1' : (i : Int) + 1 < (E.s.size : Int) := by omega
  have hb1 := bt_eq E.s (i + 1) hi1
  have ⟨hb0, hb9⟩ := bt_bd E.s (i + 1)
  obtain ⟨k, ek, hk⟩ := isDB_nat e1
  have hk4 : k < 4 := by have := K.np; omega
  have HE := hide (show wk E (f + 1) mute i p st = _ from wkS_c hc)
  have HEK := hide (show (bt E.s (i + 1) - 48).toNat = k by omega)
  have HD := hide (show dgt (bt E.s (i + 1)) 4 = (k : Int) by
    unfold dgt
    rw [isDB_yes (by have := (isDB_iff _ _).1 e1; omega)]
    simpa using ek)
  have k0 := h.cP
  have kS := h.cS
  have kO := h.cO
  have HH := hide h
  have HO := hide h.ord
  have HR := hide hr
  rw [hc] at hbq
  clear h hr hf e1 ek hc
  rw [unhide HEK] at HE
  go_enter Tryz.func31, Tryz.ntmps31
  go_wp2_with fail
  refine (Bottom_any _ _ _ _ _ _ _ K.n8 (unhide HO)).mono ?_
  rintro e w' ⟨rfl, rfl⟩
  go_wp2_with fail
  refine (digit_any _ _ _ hb0 hb9).mono ?_
  rintro e w1 ⟨rfl, rfl⟩
  rw [unhide HD]
  go_wp2_with fail
  refine (call_any K.S K.L K.n8 (unhide HH) (unhide HR) hk K.np hp).mono ?_
  rintro e w3 ⟨rfl, ha, hfr⟩
  have HA := hide ha
  have HFR := hide hfr
  clear ha hfr
  go_wp2_with fail
  go_ret2
  exact ⟨by rw [unhide HE]; go_num, by rw [unhide HE]; exact ⟨unhide HA, unhide HFR⟩⟩

end Go.Proofs.YtfcflnnleadpkaaGreat
