import Derived.Test.YtfcflnnleadpkaaMa
namespace Go.Proofs.Ytfcflnnleadpkaa

def noT : Nat → Nat → Bool := fun _ _ => false
def updV (R : Nat → Nat → Bool) (a b : Nat) (v : Bool) : Nat → Nat → Bool := fun i j => if i == a && j == b then v else R i j

/-- The table behind a rounds of the first loop; behind the part of a stage; behind k stages. -/
def diagU (R : Nat → Nat → Bool) (a : Nat) : Nat → Nat → Bool := fun i j => R i j || (i == j && decide (i < a))
def stp (n : Nat) (R : Nat → Nat → Bool) (k a b : Nat) : Nat → Nat → Bool := fun i j => R i j || ((decide (i < a) || (i == a && decide (j < b))) && decide (j < n) && R i k && R k j)
def wf (n : Nat) (R : Nat → Nat → Bool) : Nat → Nat → Nat → Bool
  | 0 => diagU R n
  | k + 1 => stp n (wf n R k) k n 0

theorem diagU_step (R : Nat → Nat → Bool) (a : Nat) (x y : Nat) : updV (diagU R a) a a true x y = diagU R (a + 1) x y := by
  unfold updV diagU
  by_cases h1 : x = a <;> by_cases h2 : y = a
  · simp [h1, h2]
  · have : ¬ a = y := fun e => h2 e.symm
    simp [h1, h2, this]
  · have h1' : (x == a) = false := by simp [h1]
    subst h2
    simp [h1']
  · have : (decide (x < a)) = decide (x < a + 1) := by rw [decide_eq_decide]; omega
    simp [h1, this]
theorem stp_col (n : Nat) (R : Nat → Nat → Bool) (k a b i : Nat) : stp n R k a b i k = R i k := by
  unfold stp; cases R i k <;> simp
theorem stp_row (n : Nat) (R : Nat → Nat → Bool) (k a b j : Nat) : stp n R k a b k j = R k j := by
  unfold stp; cases R k j <;> simp
theorem stp_set (n : Nat) (R : Nat → Nat → Bool) (k a b : Nat) (hb : b < n) (h1 : R a k = true) (h2 : R k b = true) (x y : Nat) : updV (stp n R k a b) a b true x y = stp n R k a (b + 1) x y := by
  unfold updV stp
  by_cases e1 : x = a
  · subst e1
    by_cases e2 : y = b
    · subst e2; simp [h1, h2, hb]
    · have : decide (y < b) = decide (y < b + 1) := by rw [decide_eq_decide]; omega
      simp [e2, this]
  · have e1' : (x == a) = false := by simp [e1]
    simp [e1']
theorem stp_no (n : Nat) (R : Nat → Nat → Bool) (k a b : Nat) (h : (R a k && R k b) = false) : stp n R k a (b + 1) = stp n R k a b := by
  funext x y
  unfold stp
  by_cases e1 : x = a
  · subst e1
    by_cases e2 : y = b
    · subst e2
      cases h1 : R x k <;> simp_all
    · have : decide (y < b) = decide (y < b + 1) := by rw [decide_eq_decide]; omega
      rw [this]
  · have e1' : (x == a) = false := by simp [e1]
    simp [e1']
theorem stp_next (n : Nat) (R : Nat → Nat → Bool) (k a b : Nat) (hb : n ≤ b) : stp n R k (a + 1) 0 = stp n R k a b := by
  funext x y
  unfold stp
  by_cases e1 : x = a
  · subst e1
    by_cases e2 : y < n
    · have : y < b := by omega
      simp [this]
    · simp [e2]
  · have : decide (x < a) = decide (x < a + 1) := by rw [decide_eq_decide]; omega
    have e1' : (x == a) = false := by simp [e1]
    simp [e1', this]
theorem stp_zero (n : Nat) (R : Nat → Nat → Bool) (k : Nat) : stp n R k 0 0 = R := by
  funext x y; unfold stp; simp

theorem wf_refl (n : Nat) (R : Nat → Nat → Bool) (k i : Nat) (hi : i < n) : wf n R k i i = true := by
  induction k with
  | zero => simp [wf, diagU, hi]
  | succ k ih => simp [wf, stp, ih]


end Go.Proofs.Ytfcflnnleadpkaa
