import Derived.KernelRfl
import Derived.Test.YtfcflnnleadpkaaGreatProg
import Derived.WalkKit
import Derived.WalkSpells
import Derived.WalkLawsBesides
import Derived.Outline
import Derived.Laws.Tables
import Derived.Laws.Rows
import Derived.Laws.CopyRow
import Derived.BigQuiet
import Derived.Deep.QuietTactic
/- Plain facts on levels: no program in sight. -/
namespace Hm

def firstB (p : Nat → Bool) : Nat → Nat → Int
  | 0, _ => -1
  | f + 1, k => if p k = true then (k : Int) else firstB p f (k + 1)
def allB (p : Nat → Bool) : Nat → Nat → Bool
  | 0, _ => true
  | f + 1, k => p k && allB p f (k + 1)
def anyB (p : Nat → Bool) : Nat → Nat → Bool
  | 0, _ => false
  | f + 1, k => p k || anyB p f (k + 1)

theorem firstB_yes {p : Nat → Bool} {n k : Nat} (hk : k < n) (h : p k = true) : firstB p (n - k) k = (k : Int) := by
  obtain ⟨m, hm⟩ : ∃ m, n - k = m + 1 := ⟨n - k - 1, by omega⟩
  rw [hm]; simp [firstB, h]
theorem firstB_no {p : Nat → Bool} {n k : Nat} (hk : k < n) (h : p k = false) : firstB p (n - k) k = firstB p (n - (k + 1)) (k + 1) := by
  obtain ⟨m, hm⟩ : ∃ m, n - k = m + 1 := ⟨n - k - 1, by omega⟩
  have h2 : n - (k + 1) = m := by omega
  rw [hm, h2]; simp [firstB, h]
theorem allB_yes {p : Nat → Bool} {n k : Nat} (hk : k < n) (h : p k = true) : allB p (n - k) k = allB p (n - (k + 1)) (k + 1) := by
  obtain ⟨m, hm⟩ : ∃ m, n - k = m + 1 := ⟨n - k - 1, by omega⟩
  have h2 : n - (k + 1) = m := by omega
  rw [hm, h2]; simp [allB, h]
theorem allB_no {p : Nat → Bool} {n k : Nat} (hk : k < n) (h : p k = false) : allB p (n - k) k = false := by
  obtain ⟨m, hm⟩ : ∃ m, n - k = m + 1 := ⟨n - k - 1, by omega⟩
  rw [hm]; simp [allB, h]
theorem anyB_yes {p : Nat → Bool} {n k : Nat} (hk : k < n) (h : p k = true) : anyB p (n - k) k = true := by
  obtain ⟨m, hm⟩ : ∃ m, n - k = m + 1 := ⟨n - k - 1, by omega⟩
  rw [hm]; simp [anyB, h]
theorem anyB_no {p : Nat → Bool} {n k : Nat} (hk : k < n) (h : p k = false) : anyB p (n - k) k = anyB p (n - (k + 1)) (k + 1) := by
  obtain ⟨m, hm⟩ : ∃ m, n - k = m + 1 := ⟨n - k - 1, by omega⟩
  have h2 : n - (k + 1) = m := by omega
  rw [hm, h2]; simp [anyB, h]
theorem firstB_end {p : Nat → Bool} {n k : Nat} (hk : n ≤ k) : firstB p (n - k) k = -1 := by
  rw [show n - k = 0 from by omega]; rfl
theorem allB_end {p : Nat → Bool} {n k : Nat} (hk : n ≤ k) : allB p (n - k) k = true := by
  rw [show n - k = 0 from by omega]; rfl
theorem anyB_end {p : Nat → Bool} {n k : Nat} (hk : n ≤ k) : anyB p (n - k) k = false := by
  rw [show n - k = 0 from by omega]; rfl

theorem allB_iff (p : Nat → Bool) (f k : Nat) : allB p f k = true ↔ ∀ d, k ≤ d → d < k + f → p d = true := by
  induction f generalizing k with
  | zero => simp [allB]; omega
  | succ f ih =>
    simp only [allB, Bool.and_eq_true, ih]
    constructor
    · rintro ⟨h1, h2⟩ d hd1 hd2
      by_cases e : d = k
      · rw [e]; exact h1
      · exact h2 d (by omega) (by omega)
    · intro h
      exact ⟨h k (by omega) (by omega), fun d hd1 hd2 => h d (by omega) (by omega)⟩
theorem anyB_iff (p : Nat → Bool) (f k : Nat) : anyB p f k = true ↔ ∃ d, k ≤ d ∧ d < k + f ∧ p d = true := by
  induction f generalizing k with
  | zero => simp [anyB]; omega
  | succ f ih =>
    simp only [anyB, Bool.or_eq_true, ih]
    constructor
    · rintro (h1 | ⟨d, h1, h2, h3⟩)
      · exact ⟨k, by omega, by omega, h1⟩
      · exact ⟨d, by omega, by omega, h3⟩
    · rintro ⟨d, h1, h2, h3⟩
      by_cases e : d = k
      · left; rw [← e]; exact h3
      · right; exact ⟨d, by omega, by omega, h3⟩
theorem firstB_spec (p : Nat → Bool) (f k : Nat) :
    (∃ c : Nat, k ≤ c ∧ c < k + f ∧ p c = true ∧ firstB p f k = (c : Int)) ∨ (firstB p f k = -1 ∧ ∀ d, k ≤ d → d < k + f → p d = false) := by
  induction f generalizing k with
  | zero => right; exact ⟨rfl, fun d h1 h2 => by omega⟩
  | succ f ih =>
    cases h : p k with
    | true => left; exact ⟨k, by omega, by omega, h, by simp [firstB, h]⟩
    | false =>
      rcases ih (k + 1) with ⟨c, h1, h2, h3, h4⟩ | ⟨h1, h2⟩
      · left; exact ⟨c, by omega, by omega, h3, by simp [firstB, h, h4]⟩
      · right
        refine ⟨by simp [firstB, h, h1], fun d hd1 hd2 => ?_⟩
        by_cases e : d = k
        · rw [e]; exact h
        · exact h2 d (by omega) (by omega)
theorem firstB_lt (p : Nat → Bool) (n : Nat) : firstB p n 0 < (n : Int) ∧ -1 ≤ firstB p n 0 := by
  rcases firstB_spec p n 0 with ⟨c, h1, h2, h3, h4⟩ | ⟨h1, h2⟩
  · rw [h4]; omega
  · rw [h1]; omega
theorem firstB_congr (p q : Nat → Bool) (f k : Nat) (h : ∀ d, k ≤ d → d < k + f → p d = q d) : firstB p f k = firstB q f k := by
  induction f generalizing k with
  | zero => rfl
  | succ f ih => simp only [firstB, h k (by omega) (by omega)]; rw [ih (k + 1) (fun d h1 h2 => h d (by omega) (by omega))]
theorem allB_congr (p q : Nat → Bool) (f k : Nat) (h : ∀ d, k ≤ d → d < k + f → p d = q d) : allB p f k = allB q f k := by
  induction f generalizing k with
  | zero => rfl
  | succ f ih => simp only [allB, h k (by omega) (by omega)]; rw [ih (k + 1) (fun d h1 h2 => h d (by omega) (by omega))]

def both (R : Nat → Nat → Bool) (a b c : Nat) : Bool := R a c && R b c
/-- c is a join of a and b. -/
def lubD (R : Nat → Nat → Bool) (a b c d : Nat) : Bool := !(both R a b d && !(R c d))
def lub (R : Nat → Nat → Bool) (n a b c : Nat) : Bool := both R a b c && allB (lubD R a b c) n 0
def glbD (R : Nat → Nat → Bool) (a b c d : Nat) : Bool := !(R d a && R d b && !(R d c))
def glb (R : Nat → Nat → Bool) (n a b c : Nat) : Bool := (R c a && R c b) && allB (glbD R a b c) n 0
def joinI (R : Nat → Nat → Bool) (n a b : Nat) : Int := firstB (lub R n a b) n 0
def meets (R : Nat → Nat → Bool) (n a b : Nat) : Bool := anyB (glb R n a b) n 0
def circD (R : Nat → Nat → Bool) (a b : Nat) : Bool := R a b && R b a
def circRow (R : Nat → Nat → Bool) (a : Nat) : Bool := anyB (circD R a) a 0
def circ (R : Nat → Nat → Bool) (n : Nat) : Bool := anyB (circRow R) n 0
def hasD (R : Nat → Nat → Bool) (n a b : Nat) : Bool := !(joinI R n a b == -1)
def hasRow (R : Nat → Nat → Bool) (n a : Nat) : Bool := allB (hasD R n a) a 0
def hasJ (R : Nat → Nat → Bool) (n : Nat) : Bool := allB (hasRow R n) n 0
def flip (R : Nat → Nat → Bool) (a b : Nat) : Bool := R b a
def wellC (R : Nat → Nat → Bool) (n : Nat) : Bool := (!(circ R n) && hasJ R n) && hasJ (flip R) n
def wellRow (R : Nat → Nat → Bool) (n a b : Nat) : Bool := !((!(a == b) && R a b) && R b a) && !(decide (joinI R n a b < 0) || !(meets R n a b))
def wellLine (R : Nat → Nat → Bool) (n a : Nat) : Bool := allB (wellRow R n a) n 0
def wellR (R : Nat → Nat → Bool) (n : Nat) : Bool := allB (wellLine R n) n 0

theorem lub_iff (R : Nat → Nat → Bool) (n a b c : Nat) : lub R n a b c = true ↔ R a c = true ∧ R b c = true ∧ ∀ d, d < n → R a d = true → R b d = true → R c d = true := by
  simp only [lub, lubD, both, Bool.and_eq_true, allB_iff]
  constructor
  · rintro ⟨⟨h1, h2⟩, h3⟩
    refine ⟨h1, h2, fun d hd h4 h5 => ?_⟩
    have := h3 d (by omega) (by omega)
    simpa [h4, h5] using this
  · rintro ⟨h1, h2, h3⟩
    refine ⟨⟨h1, h2⟩, fun d _ hd => ?_⟩
    have := h3 d (by omega)
    cases e1 : R a d <;> cases e2 : R b d <;> simp_all
theorem glb_iff (R : Nat → Nat → Bool) (n a b c : Nat) : glb R n a b c = true ↔ R c a = true ∧ R c b = true ∧ ∀ d, d < n → R d a = true → R d b = true → R d c = true := by
  simp only [glb, glbD, Bool.and_eq_true, allB_iff]
  constructor
  · rintro ⟨⟨h1, h2⟩, h3⟩
    refine ⟨h1, h2, fun d hd h4 h5 => ?_⟩
    have := h3 d (by omega) (by omega)
    simpa [h4, h5] using this
  · rintro ⟨h1, h2, h3⟩
    refine ⟨⟨h1, h2⟩, fun d _ hd => ?_⟩
    have := h3 d (by omega)
    cases e1 : R d a <;> cases e2 : R d b <;> simp_all
theorem joinI_ok_iff (R : Nat → Nat → Bool) (n a b : Nat) : joinI R n a b ≠ -1 ↔ ∃ c, c < n ∧ lub R n a b c = true := by
  unfold joinI
  rcases firstB_spec (lub R n a b) n 0 with ⟨c, h1, h2, h3, h4⟩ | ⟨h1, h2⟩
  · rw [h4]; exact ⟨fun _ => ⟨c, by omega, h3⟩, fun _ => by omega⟩
  · rw [h1]
    refine ⟨fun h => absurd rfl h, fun ⟨c, hc, h⟩ => ?_⟩
    rw [h2 c (by omega) (by omega)] at h; cases h
theorem meets_iff (R : Nat → Nat → Bool) (n a b : Nat) : meets R n a b = true ↔ ∃ c, c < n ∧ glb R n a b c = true := by
  unfold meets; rw [anyB_iff]
  exact ⟨fun ⟨d, _, h2, h3⟩ => ⟨d, by omega, h3⟩, fun ⟨d, h2, h3⟩ => ⟨d, by omega, by omega, h3⟩⟩
theorem hasJ_iff (R : Nat → Nat → Bool) (n : Nat) : hasJ R n = true ↔ ∀ a b, a < n → b < a → ∃ c, c < n ∧ lub R n a b c = true := by
  simp only [hasJ, hasRow, hasD, allB_iff]
  constructor
  · intro h a b ha hb
    have := h a (by omega) (by omega) b (by omega) (by omega)
    exact (joinI_ok_iff R n a b).1 (by simpa using this)
  · intro h a _ ha b _ hb
    have := (joinI_ok_iff R n a b).2 (h a b (by omega) (by omega))
    simpa using this
theorem lub_symm (R : Nat → Nat → Bool) (n a b c : Nat) (h : lub R n a b c = true) : lub R n b a c = true := by
  rw [lub_iff] at *
  exact ⟨h.2.1, h.1, fun d hd h1 h2 => h.2.2 d hd h2 h1⟩
theorem lub_glb (R : Nat → Nat → Bool) (n a b c : Nat) : lub (flip R) n a b c = glb R n a b c := by
  rw [Bool.eq_iff_iff, lub_iff, glb_iff]; rfl
theorem glb_symm (R : Nat → Nat → Bool) (n a b c : Nat) (h : glb R n a b c = true) : glb R n b a c = true := by
  rw [glb_iff] at *
  exact ⟨h.2.1, h.1, fun d hd h1 h2 => h.2.2 d hd h2 h1⟩
theorem wellRow_iff (R : Nat → Nat → Bool) (n a b : Nat) : wellRow R n a b = true ↔ ¬ (a ≠ b ∧ R a b = true ∧ R b a = true) ∧ (∃ c, c < n ∧ lub R n a b c = true) ∧ (∃ c, c < n ∧ glb R n a b c = true) := by
  rw [← joinI_ok_iff, ← meets_iff]
  have hj := (firstB_lt (lub R n a b) n).2
  have hj' : -1 ≤ joinI R n a b := hj
  unfold wellRow
  have e : decide (joinI R n a b < 0) = decide (joinI R n a b = -1) := by
    rw [decide_eq_decide]; omega
  rw [e]
  by_cases h1 : a = b <;> cases h2 : R a b <;> cases h3 : R b a <;> cases h4 : meets R n a b <;> by_cases h5 : joinI R n a b = -1 <;> simp_all
theorem wellR_iff (R : Nat → Nat → Bool) (n : Nat) : wellR R n = true ↔ ∀ a b, a < n → b < n → wellRow R n a b = true := by
  simp only [wellR, wellLine, allB_iff]
  exact ⟨fun h a b ha hb => h a (by omega) (by omega) b (by omega) (by omega), fun h a _ ha b _ hb => h a b (by omega) (by omega)⟩
theorem circ_iff (R : Nat → Nat → Bool) (n : Nat) : circ R n = true ↔ ∃ a b, a < n ∧ b < a ∧ R a b = true ∧ R b a = true := by
  simp only [circ, circRow, circD, anyB_iff, Bool.and_eq_true]
  constructor
  · rintro ⟨a, _, h2, b, _, h4, h5, h6⟩; exact ⟨a, b, by omega, by omega, h5, h6⟩
  · rintro ⟨a, b, h1, h2, h3, h4⟩; exact ⟨a, by omega, by omega, b, by omega, by omega, h3, h4⟩
theorem wellC_iff (R : Nat → Nat → Bool) (n : Nat) : wellC R n = true ↔ circ R n = false ∧ hasJ R n = true ∧ hasJ (flip R) n = true := by
  simp [wellC, and_assoc]

/-- The program's way and the document's way to ask whether levels are well ordered. -/
theorem well_same (R : Nat → Nat → Bool) (n : Nat) (hr : ∀ i, i < n → R i i = true) : wellC R n = wellR R n := by
  rw [Bool.eq_iff_iff, wellC_iff, wellR_iff]
  constructor
  · rintro ⟨h1, h2, h3⟩ a b ha hb
    rw [hasJ_iff] at h2 h3
    have hc : ¬ ∃ a b, a < n ∧ b < a ∧ R a b = true ∧ R b a = true := by
      rw [← circ_iff, h1]; simp
    rw [wellRow_iff]
    refine ⟨?_, ?_, ?_⟩
    · rintro ⟨e, e1, e2⟩
      rcases Nat.lt_or_gt_of_ne e with h | h
      · exact hc ⟨b, a, hb, h, e2, e1⟩
      · exact hc ⟨a, b, ha, h, e1, e2⟩
    · rcases Nat.lt_trichotomy a b with h | h | h
      · obtain ⟨c, h4, h5⟩ := h2 b a hb h
        exact ⟨c, h4, lub_symm R n b a c h5⟩
      · subst h
        exact ⟨a, ha, (lub_iff R n a a a).2 ⟨hr a ha, hr a ha, fun d _ h4 _ => h4⟩⟩
      · exact h2 a b ha h
    · rcases Nat.lt_trichotomy a b with h | h | h
      · obtain ⟨c, h4, h5⟩ := h3 b a hb h
        rw [lub_glb] at h5
        exact ⟨c, h4, glb_symm R n b a c h5⟩
      · subst h
        exact ⟨a, ha, (glb_iff R n a a a).2 ⟨hr a ha, hr a ha, fun d _ h4 _ => h4⟩⟩
      · obtain ⟨c, h4, h5⟩ := h3 a b ha h
        rw [lub_glb] at h5
        exact ⟨c, h4, h5⟩
  · intro h
    refine ⟨?_, ?_, ?_⟩
    · cases e : circ R n with
      | false => rfl
      | true =>
        obtain ⟨a, b, h1, h2, h3, h4⟩ := (circ_iff R n).1 e
        exact absurd ⟨by omega, h3, h4⟩ ((wellRow_iff R n a b).1 (h a b h1 (by omega))).1
    · rw [hasJ_iff]
      intro a b ha hb
      exact ((wellRow_iff R n a b).1 (h a b ha (by omega))).2.1
    · rw [hasJ_iff]
      intro a b ha hb
      obtain ⟨c, h1, h2⟩ := ((wellRow_iff R n a b).1 (h a b ha (by omega))).2.2
      exact ⟨c, h1, by rw [lub_glb]; exact h2⟩

/-- Tables that are the same at levels. -/
def Same (n : Nat) (R S : Nat → Nat → Bool) : Prop := ∀ i j, i < n → j < n → R i j = S i j
theorem lub_congr {n : Nat} {R S : Nat → Nat → Bool} (h : Same n R S) {a b c : Nat} (ha : a < n) (hb : b < n) (hc : c < n) : lub R n a b c = lub S n a b c := by
  unfold lub both
  rw [h a c ha hc, h b c hb hc, allB_congr _ (lubD S a b c) n 0 (fun d _ hd => by unfold lubD both; rw [h a d ha (by omega), h b d hb (by omega), h c d hc (by omega)])]
theorem glb_congr {n : Nat} {R S : Nat → Nat → Bool} (h : Same n R S) {a b c : Nat} (ha : a < n) (hb : b < n) (hc : c < n) : glb R n a b c = glb S n a b c := by
  unfold glb
  rw [h c a hc ha, h c b hc hb, allB_congr _ (glbD S a b c) n 0 (fun d _ hd => by unfold glbD; rw [h d a (by omega) ha, h d b (by omega) hb, h d c (by omega) hc])]
theorem joinI_congr {n : Nat} {R S : Nat → Nat → Bool} (h : Same n R S) {a b : Nat} (ha : a < n) (hb : b < n) : joinI R n a b = joinI S n a b :=
  firstB_congr _ _ n 0 (fun d _ hd => lub_congr h ha hb (by omega))
theorem meets_congr {n : Nat} {R S : Nat → Nat → Bool} (h : Same n R S) {a b : Nat} (ha : a < n) (hb : b < n) : meets R n a b = meets S n a b := by
  rw [Bool.eq_iff_iff, meets_iff, meets_iff]
  exact ⟨fun ⟨c, h1, h2⟩ => ⟨c, h1, by rw [← glb_congr h ha hb h1]; exact h2⟩, fun ⟨c, h1, h2⟩ => ⟨c, h1, by rw [glb_congr h ha hb h1]; exact h2⟩⟩
theorem wellR_congr {n : Nat} {R S : Nat → Nat → Bool} (h : Same n R S) : wellR R n = wellR S n := by
  unfold wellR wellLine
  refine allB_congr _ _ n 0 (fun a _ ha => allB_congr _ _ n 0 (fun b _ hb => ?_))
  unfold wellRow
  rw [h a b (by omega) (by omega), h b a (by omega) (by omega), joinI_congr h (by omega) (by omega), meets_congr h (by omega) (by omega)]

end Hm

namespace Go.Proofs.YtfcflnnleadpkaaGreat

def noT : Nat → Nat → Bool := fun _ _ => false
def updV (R : Nat → Nat → Bool) (a b : Nat) (v : Bool) : Nat → Nat → Bool := fun i j => if i == a && j == b then v else R i j

/-- The table behind a rounds of the first loop; behind the part of a stage; behind k stages. -/
def diagU (R : Nat → Nat → Bool) (a : Nat) : Nat → Nat → Bool := fun i j => R i j || (i == j && decide (i < a))
def stp (n : Nat) (R : Nat → Nat → Bool) (k a b : Nat) : Nat → Nat → Bool := fun i j => R i j || ((decide (i < a) || (i == a && decide (j < b))) && decide (j < n) && R i k && R k j)
def wf (n : Nat) (R : Nat → Nat → Bool) : Nat → Nat → Nat → Bool
  | 0 => diagU R n
  | k + 1 => stp n (wf n R k) k n 0

theorem diagU_step (R : Nat → Nat → Bool) (a : Nat) (x y : Nat) : updV (diagU R a) a a true x y = diagU R (a + 1) x y := by
  unfold updV diagU
  by_cases h1 : x = a <;> by_cases h2 : y = a
  · simp [h1, h2]
  · have : ¬ a = y := fun e => h2 e.symm
    simp [h1, h2, this]
  · have h1' : (x == a) = false := by simp [h1]
    subst h2
    simp [h1']
  · have : (decide (x < a)) = decide (x < a + 1) := by rw [decide_eq_decide]; omega
    simp [h1, this]
theorem stp_col (n : Nat) (R : Nat → Nat → Bool) (k a b i : Nat) : stp n R k a b i k = R i k := by
  unfold stp; cases R i k <;> simp
theorem stp_row (n : Nat) (R : Nat → Nat → Bool) (k a b j : Nat) : stp n R k a b k j = R k j := by
  unfold stp; cases R k j <;> simp
theorem stp_set (n : Nat) (R : Nat → Nat → Bool) (k a b : Nat) (hb : b < n) (h1 : R a k = true) (h2 : R k b = true) (x y : Nat) : updV (stp n R k a b) a b true x y = stp n R k a (b + 1) x y := by
  unfold updV stp
  by_cases e1 : x = a
  · subst e1
    by_cases e2 : y = b
    · subst e2; simp [h1, h2, hb]
    · have : decide (y < b) = decide (y < b + 1) := by rw [decide_eq_decide]; omega
      simp [e2, this]
  · have e1' : (x == a) = false := by simp [e1]
    simp [e1']
theorem stp_no (n : Nat) (R : Nat → Nat → Bool) (k a b : Nat) (h : (R a k && R k b) = false) : stp n R k a (b + 1) = stp n R k a b := by
  funext x y
  unfold stp
  by_cases e1 : x = a
  · subst e1
    by_cases e2 : y = b
    · subst e2
      cases h1 : R x k <;> simp_all
    · have : decide (y < b) = decide (y < b + 1) := by rw [decide_eq_decide]; omega
      rw [this]
  · have e1' : (x == a) = false := by simp [e1]
    simp [e1']
theorem stp_next (n : Nat) (R : Nat → Nat → Bool) (k a b : Nat) (hb : n ≤ b) : stp n R k (a + 1) 0 = stp n R k a b := by
  funext x y
  unfold stp
  by_cases e1 : x = a
  · subst e1
    by_cases e2 : y < n
    · have : y < b := by omega
      simp [this]
    · simp [e2]
  · have : decide (x < a) = decide (x < a + 1) := by rw [decide_eq_decide]; omega
    have e1' : (x == a) = false := by simp [e1]
    simp [e1', this]
theorem stp_zero (n : Nat) (R : Nat → Nat → Bool) (k : Nat) : stp n R k 0 0 = R := by
  funext x y; unfold stp; simp

theorem wf_refl (n : Nat) (R : Nat → Nat → Bool) (k i : Nat) (hi : i < n) : wf n R k i i = true := by
  induction k with
  | zero => simp [wf, diagU, hi]
  | succ k ih => simp [wf, stp, ih]


end Go.Proofs.YtfcflnnleadpkaaGreat

namespace Go.Proofs.YtfcflnnleadpkaaGreat
open Go.RowKit

theorem hide {p : Prop} (h : p) : Hid p := h
theorem unhide {p : Prop} (h : Hid p) : p := h

end Go.Proofs.YtfcflnnleadpkaaGreat

namespace Go.Proofs.YtfcflnnleadpkaaGreat
open Go.RowKit

/-- The byte at a place, as a number. -/
def bt (s : ByteArray) (k : Nat) : Int := if h : k < s.size then (s[k].toNat : Int) else 0
theorem bt_eq (s : ByteArray) (k : Nat) (h : k < s.size) : (s[k].toNat : Int) = bt s k := by simp [bt, h]
theorem bt_bd (s : ByteArray) (k : Nat) : 0 ≤ bt s k ∧ bt s k ≤ 255 := by
  unfold bt; split
  · rename_i h
    have := (s[k]).toNat_lt
    omega
  · omega
/-- Is the byte c a digit below lim? -/
def isDB (c lim : Int) : Bool := decide (48 ≤ c) && decide (c ≤ 57) && decide (c - 48 < lim)
theorem isDB_iff (c lim : Int) : isDB c lim = true ↔ 48 ≤ c ∧ c ≤ 57 ∧ c - 48 < lim := by simp [isDB, and_assoc]
theorem isDB_no {c lim : Int} (h : ¬ (48 ≤ c ∧ c ≤ 57 ∧ c - 48 < lim)) : isDB c lim = false := by
  cases e : isDB c lim with
  | false => rfl
  | true => exact absurd ((isDB_iff c lim).1 e) h
theorem isDB_yes {c lim : Int} (h : 48 ≤ c ∧ c ≤ 57 ∧ c - 48 < lim) : isDB c lim = true := (isDB_iff c lim).2 h

def digB (s : ByteArray) (k : Nat) (lim : Int) : Bool := decide (k < s.size) && isDB (bt s k) lim
def digV (s : ByteArray) (k : Nat) (lim : Int) : Int := if digB s k lim = true then bt s k - 48 else 0
theorem digB_yes {s : ByteArray} {k : Nat} {lim : Int} (h : k < s.size) : digB s k lim = isDB (bt s k) lim := by simp [digB, h]
theorem digB_no {s : ByteArray} {k : Nat} {lim : Int} (h : ¬ k < s.size) : digB s k lim = false := by simp [digB, h]

end Go.Proofs.YtfcflnnleadpkaaGreat

namespace Go.Proofs.YtfcflnnleadpkaaGreat

/-- The first byte says n levels. -/
def FirstOk (s : ByteArray) (n : Nat) : Prop := digB s 0 9 = true ∧ digV s 0 9 = (n : Int) ∧ 1 ≤ n ∧ n ≤ 8
/-- s is no order: k is the place. -/
def BadAt (s : ByteArray) (k : Nat) : Prop :=
  (k = 0 ∧ ∀ n, ¬ FirstOk s n) ∨ ∃ n : Nat, FirstOk s n ∧ 1 ≤ k ∧ k ≤ s.size ∧ (∀ i, 1 ≤ i → i < k → digB s i n = true) ∧ digB s k n = false ∧ (k = s.size → s.size % 2 = 0)
def GoodOrd (s : ByteArray) (n : Nat) : Prop := FirstOk s n ∧ s.size % 2 = 1 ∧ ∀ i, 1 ≤ i → i < s.size → digB s i n = true

theorem digV_bd {s : ByteArray} {k : Nat} {n : Nat} (h : digB s k n = true) : ∃ i : Nat, digV s k n = (i : Int) ∧ i < n ∧ bt s k = 48 + (i : Int) ∧ k < s.size := by
  unfold digV
  rw [if_pos h]
  have h2 := h
  unfold digB at h2
  simp only [Bool.and_eq_true, decide_eq_true_eq, isDB_iff] at h2
  exact ⟨(bt s k - 48).toNat, by omega, by omega, by omega, h2.1⟩
theorem FirstOk_uniq {s : ByteArray} {n m : Nat} (h : FirstOk s n) (k : FirstOk s m) : n = m := by
  have h1 := h.2.1
  have h2 := k.2.1
  omega
theorem BadAt_uniq {s : ByteArray} {j k : Nat} (h1 : BadAt s j) (h2 : BadAt s k) : j = k := by
  rcases h1 with ⟨e1, f1⟩ | ⟨n, f1, a1, b1, c1, d1, g1⟩
  · rcases h2 with ⟨e2, f2⟩ | ⟨m, f2, a2, b2, c2, d2, g2⟩
    · omega
    · exact absurd f2 (f1 m)
  · rcases h2 with ⟨e2, f2⟩ | ⟨m, f2, a2, b2, c2, d2, g2⟩
    · exact absurd f1 (f2 n)
    · have := FirstOk_uniq f1 f2
      subst this
      rcases Nat.lt_trichotomy j k with h | h | h
      · rw [c2 j a1 h] at d1; cases d1
      · exact h
      · rw [c1 k a2 h] at d2; cases d2
theorem BadAt_of {s : ByteArray} {n : Nat} (hf : FirstOk s n) (hg : ¬ GoodOrd s n) : ∃ k, BadAt s k := by
  rcases Hm.firstB_spec (fun k => !(digB s k n)) (s.size - 1) 1 with ⟨c, h1, h2, h3, _⟩ | ⟨_, h2⟩
  · have hl : ∃ c, 1 ≤ c ∧ c < s.size ∧ digB s c n = false ∧ ∀ i, 1 ≤ i → i < c → digB s i n = true := by
      have key : ∀ m c, c ≤ m → 1 ≤ c → c < s.size → digB s c n = false → ∃ c, 1 ≤ c ∧ c < s.size ∧ digB s c n = false ∧ ∀ i, 1 ≤ i → i < c → digB s i n = true := by
        intro m
        induction m with
        | zero => intro c hc h1; omega
        | succ m ih =>
          intro c hc h1 h2 h3
          by_cases hh : ∃ i, 1 ≤ i ∧ i < c ∧ digB s i n = false
          · obtain ⟨i, g1, g2, g3⟩ := hh
            exact ih i (by omega) g1 (by omega) g3
          · refine ⟨c, h1, h2, h3, fun i g1 g2 => ?_⟩
            cases e : digB s i n with
            | true => rfl
            | false => exact absurd ⟨i, g1, g2, e⟩ hh
      exact key c c (Nat.le_refl _) h1 (by omega) (by simpa using h3)
    obtain ⟨c, g1, g2, g3, g4⟩ := hl
    exact ⟨c, Or.inr ⟨n, hf, g1, by omega, g4, g3, fun e => by omega⟩⟩
  · have hall : ∀ i, 1 ≤ i → i < s.size → digB s i n = true := fun i h1 h3 => by
      have := h2 i h1 (by omega)
      simpa using this
    have hev : s.size % 2 = 0 := by
      rcases Nat.mod_two_eq_zero_or_one s.size with h | h
      · exact h
      · exact absurd ⟨hf, h, hall⟩ hg
    have hpos : 1 ≤ s.size := by
      obtain ⟨i, g1, g2, g3, g4⟩ := digV_bd (n := 9) hf.1
      omega
    exact ⟨s.size, Or.inr ⟨n, hf, hpos, Nat.le_refl _, hall, digB_no (by omega), fun _ => hev⟩⟩
theorem GoodOrd_uniq {s : ByteArray} {n m : Nat} (h : GoodOrd s n) (k : GoodOrd s m) : n = m := FirstOk_uniq h.1 k.1
theorem Good_not_Bad {s : ByteArray} {n k : Nat} (h : GoodOrd s n) (b : BadAt s k) : False := by
  rcases b with ⟨e2, f2⟩ | ⟨m, f2, a2, b2, c2, d2, g2⟩
  · exact f2 n h.1
  · have := FirstOk_uniq h.1 f2
    subst this
    by_cases e : k = s.size
    · have := g2 e; have := h.2.1; omega
    · rw [h.2.2 k a2 (by omega)] at d2; cases d2

/-- The table of the first m pairs. -/
def pairsTo (s : ByteArray) (n : Nat) : Nat → Nat → Nat → Bool
  | 0 => noT
  | m + 1 => updV (pairsTo s n m) (digV s (2 * m + 1) n).toNat (digV s (2 * m + 2) n).toNat true

/-- The table that an order's text says: of the program's make. -/
def cl (s : ByteArray) (n : Nat) : Nat → Nat → Bool := wf n (pairsTo s n (s.size / 2)) n

/-- What reading an order comes to: the error, the place, the number of levels. -/
def ReadPost (s : ByteArray) (e p : Int) (n : Nat) : Prop :=
  (65 < s.size ∧ e = 1 ∧ p = 0 ∧ n = 0) ∨ (s.size ≤ 65 ∧ ∃ k : Nat, BadAt s k ∧ e = 2 ∧ p = k ∧ n = 0) ∨
  (s.size ≤ 65 ∧ ∃ m, GoodOrd s m ∧ Hm.wellR (cl s m) m = false ∧ e = 3 ∧ p = 0 ∧ n = 0) ∨
  (s.size ≤ 65 ∧ GoodOrd s n ∧ Hm.wellR (cl s n) n = true ∧ e = 0 ∧ p = 0)
theorem ReadPost_uniq {s : ByteArray} {e p e' p' : Int} {n n' : Nat} (h : ReadPost s e p n) (h' : ReadPost s e' p' n') : e = e' ∧ p = p' ∧ n = n' := by
  rcases h with ⟨a, rfl, rfl, rfl⟩ | ⟨a, k, b, rfl, rfl, rfl⟩ | ⟨a, m, b, c, rfl, rfl, rfl⟩ | ⟨a, b, c, rfl, rfl⟩ <;>
  rcases h' with ⟨a', rfl, rfl, rfl⟩ | ⟨a', k', b', rfl, rfl, rfl⟩ | ⟨a', m', b', c', rfl, rfl, rfl⟩ | ⟨a', b', c', rfl, rfl⟩
  · exact ⟨rfl, rfl, rfl⟩
  · omega
  · omega
  · omega
  · omega
  · exact ⟨rfl, by rw [BadAt_uniq b b'], rfl⟩
  · exact absurd b (fun h => Good_not_Bad b' h)
  · exact absurd b (fun h => Good_not_Bad b' h)
  · omega
  · exact absurd b' (fun h => Good_not_Bad b h)
  · exact ⟨rfl, rfl, rfl⟩
  · have := GoodOrd_uniq b b'; subst this; rw [c] at c'; cases c'
  · omega
  · exact absurd b' (fun h => Good_not_Bad b h)
  · have := GoodOrd_uniq b b'; subst this; rw [c] at c'; cases c'
  · exact ⟨rfl, rfl, GoodOrd_uniq b b'⟩

def inR (n : Nat) (x y : Int) : Bool := decide (0 ≤ x ∧ x < (n : Int)) && decide (0 ≤ y ∧ y < (n : Int))
/-- What joining comes to, where reading the order came to the error a and to n levels. -/
def jV (s : ByteArray) (a : Int) (n : Nat) (x y : Int) : Int := if a = 0 then (if inR n x y = true then Hm.joinI (cl s n) n x.toNat y.toNat else 0) else 0
def jE (a : Int) (n : Nat) (x y : Int) : Int := if a = 0 then (if inR n x y = true then 0 else 7) else a

end Go.Proofs.YtfcflnnleadpkaaGreat

namespace Go.Proofs.YtfcflnnleadpkaaGreat

/-- The document's reader of programs, as functions of the text's bytes. Fuel: more than the bytes that are left. -/
def isOp (x : Int) : Bool := x == 43 || x == 45 || x == 42 || x == 47 || x == 60
def isVar (nv : Nat) (x : Int) : Bool := decide (97 ≤ x) && decide (x - 97 < (nv : Int))
/-- An expression at i: where the reader stands behind it, and whether it is stuck there. -/
def scE (c : Nat → Int) (nv : Nat) : Nat → Nat → Nat × Bool
  | 0, i => (i, true)
  | f + 1, i =>
    if isOp (c i) = true then (if (scE c nv f (i + 1)).2 = true then scE c nv f (i + 1) else scE c nv f (scE c nv f (i + 1)).1)
    else if isDB (c i) 10 = true then (i + 1, false)
    else if isVar nv (c i) = true then (i + 1, false) else (i, true)

theorem scE_op {c : Nat → Int} {nv f i : Nat} (h : isOp (c i) = true) : scE c nv (f + 1) i = if (scE c nv f (i + 1)).2 = true then scE c nv f (i + 1) else scE c nv f (scE c nv f (i + 1)).1 := by
  simp only [scE, if_pos h]
theorem scE_dig {c : Nat → Int} {nv f i : Nat} (h : isOp (c i) = false) (h2 : isDB (c i) 10 = true) : scE c nv (f + 1) i = (i + 1, false) := by
  simp [scE, h, h2]
theorem scE_var {c : Nat → Int} {nv f i : Nat} (h : isOp (c i) = false) (h2 : isDB (c i) 10 = false) (h3 : isVar nv (c i) = true) : scE c nv (f + 1) i = (i + 1, false) := by
  simp [scE, h, h2, h3]
theorem scE_bad {c : Nat → Int} {nv f i : Nat} (h : isOp (c i) = false) (h2 : isDB (c i) 10 = false) (h3 : isVar nv (c i) = false) : scE c nv (f + 1) i = (i, true) := by
  simp [scE, h, h2, h3]
theorem scE_le (c : Nat → Int) (nv f i : Nat) : i ≤ (scE c nv f i).1 := by
  induction f generalizing i with
  | zero => simp [scE]
  | succ f ih =>
    cases h : isOp (c i)
    · cases h2 : isDB (c i) 10
      · cases h3 : isVar nv (c i)
        · rw [scE_bad h h2 h3]; simp
        · rw [scE_var h h2 h3]; simp
      · rw [scE_dig h h2]; simp
    · rw [scE_op h]
      have h1 := ih (i + 1)
      split
      · omega
      · have h2 := ih (scE c nv f (i + 1)).1
        omega

/-- A statement at i: where the reader stands, whether it is stuck, the places of the called procedures' digits. -/
def thenS (r : Nat × Bool × List Nat) (g : Nat → List Nat → Nat × Bool × List Nat) : Nat × Bool × List Nat := if r.2.1 = true then r else g r.1 r.2.2
def thenE (e : Nat × Bool) (C : List Nat) (g : Nat → Nat × Bool × List Nat) : Nat × Bool × List Nat := if e.2 = true then (e.1, true, C) else g e.1
def scS (c : Nat → Int) (nv N : Nat) : Nat → Nat → List Nat → Nat × Bool × List Nat
  | 0, i, C => (i, true, C)
  | f + 1, i, C =>
    if c i = 46 ∨ c i = 120 then (i + 1, false, C)
    else if c i = 44 ∨ c i = 116 then thenS (scS c nv N f (i + 1) C) (scS c nv N f)
    else if c i = 61 then (if isVar nv (c (i + 1)) = true then thenE (scE c nv f (i + 2)) C (fun j => (j, false, C)) else (i + 1, true, C))
    else if c i = 105 then thenE (scE c nv f (i + 1)) C (fun j => thenS (scS c nv N f j C) (scS c nv N f))
    else if c i = 119 then thenE (scE c nv f (i + 1)) C (fun j => scS c nv N f j C)
    else if c i = 114 then (if isDB (c (i + 1)) N = true then (if isVar nv (c (i + 2)) = true then (i + 3, false, C) else (i + 2, true, C)) else (i + 1, true, C))
    else if c i = 111 then (if isDB (c (i + 1)) N = true then thenE (scE c nv f (i + 2)) C (fun j => (j, false, C)) else (i + 1, true, C))
    else if c i = 99 then (if isDB (c (i + 1)) 4 = true then (i + 2, false, C ++ [i + 1]) else (i + 1, true, C ++ [i + 1]))
    else (i, true, C)

end Go.Proofs.YtfcflnnleadpkaaGreat

namespace Go.Proofs.YtfcflnnleadpkaaGreat
open Go.RowKit

def dgt (c n : Int) : Int := if isDB c n = true then c - 48 else -1
theorem dgt_no {c n : Int} (h : ¬ (48 ≤ c ∧ c ≤ 57 ∧ c - 48 < n)) : dgt c n = -1 := by unfold dgt; rw [isDB_no h]; rfl
theorem dgt_yes {c n : Int} (h : 48 ≤ c ∧ c ≤ 57 ∧ c - 48 < n) : dgt c n = c - 48 := by unfold dgt; rw [isDB_yes h]; rfl

set_option maxHeartbeats 400000 in
theorem digit_any (w : World) (c n : Int) (h0 : 0 ≤ c) (h1 : c ≤ 255) :
    Calls Tryz.prog 29 #[.int .u8 c, .int .i64 n] w fun e w' => e = .returned (.int .i64 (dgt c n)) ∧ w' = w := by
  by_cases a1 : c < 48
  · have HF := hide (dgt_no (c := c) (n := n) (by omega))
    have b1 : decide (c - 48 < 0) = true := by simp; omega
    go_enter Tryz.func29, Tryz.ntmps29
    go_wp2_with fail
    go_ret
    exact ⟨by rw [unhide HF]; rfl, rfl⟩
  have b1 : decide (c - 48 < 0) = false := by simp; omega
  by_cases a2 : n ≤ c - 48
  · have HF := hide (dgt_no (c := c) (n := n) (by omega))
    have b2 : decide (n ≤ c - 48) = true := by simp; omega
    go_enter Tryz.func29, Tryz.ntmps29
    go_wp2_with fail
    go_ret
    exact ⟨by rw [unhide HF]; rfl, rfl⟩
  have b2 : decide (n ≤ c - 48) = false := by simp; omega
  by_cases a3 : 9 < c - 48
  · have HF := hide (dgt_no (c := c) (n := n) (by omega))
    have b3 : decide (9 < c - 48) = true := by simp; omega
    go_enter Tryz.func29, Tryz.ntmps29
    go_wp2_with fail
    go_ret
    exact ⟨by rw [unhide HF]; rfl, rfl⟩
  have b3 : decide (9 < c - 48) = false := by simp; omega
  have HF := hide (dgt_yes (c := c) (n := n) (by omega))
  go_enter Tryz.func29, Tryz.ntmps29
  go_wp2_with fail
  go_ret
  exact ⟨by rw [unhide HF]; rfl, rfl⟩

end Go.Proofs.YtfcflnnleadpkaaGreat

namespace Go.Proofs.YtfcflnnleadpkaaGreat
open Go.RowKit

def WrittenPost (s : ByteArray) (e : Ending) : Prop :=
  (∃ (k : Nat) (x : Int), BadAt s k ∧ e = .returned (.tuple #[.int .i64 x, .int .i64 k, .bool false])) ∨
  (∃ n : Nat, GoodOrd s n ∧ e = .returned (.tuple #[.int .i64 n, .int .i64 s.size, .bool true]))

theorem FirstOk_of (s : ByteArray) (h0 : 0 < s.size) (h1 : 49 ≤ bt s 0) (h2 : bt s 0 ≤ 56) : ∃ n : Nat, bt s 0 - 48 = (n : Int) ∧ FirstOk s n := by
  refine ⟨(bt s 0 - 48).toNat, by omega, ?_⟩
  have hd : digB s 0 9 = true := by rw [digB_yes h0]; exact isDB_yes ⟨by omega, by omega, by omega⟩
  exact ⟨hd, by unfold digV; rw [if_pos hd]; omega, by omega, by omega⟩
theorem FirstOk_bd {s : ByteArray} {n : Nat} (h : FirstOk s n) : 0 < s.size ∧ bt s 0 = 48 + (n : Int) := by
  obtain ⟨h1, h2, h3, h4⟩ := h
  obtain ⟨i, g1, g2, g3, g4⟩ := digV_bd (n := 9) h1
  have : digV s 0 ((9 : Nat) : Int) = digV s 0 9 := rfl
  rw [this] at g1
  exact ⟨g4, by omega⟩
theorem dgt_neg {s : ByteArray} {k n : Nat} (hk : k < s.size) (h : digB s k n = false) : dgt (bt s k) n = -1 := by
  rw [digB_yes hk] at h
  unfold dgt; rw [h]; rfl
theorem dgt_pos {s : ByteArray} {k n : Nat} (h : digB s k n = true) : dgt (bt s k) n = digV s k n := by
  unfold digV dgt
  rw [if_pos h]
  unfold digB at h
  simp only [Bool.and_eq_true] at h
  rw [h.2]; rfl

set_option maxHeartbeats 1000000 in
theorem written_bad0 (w : World) (s : ByteArray) (h : ∀ n, ¬ FirstOk s n) :
    Calls Tryz.prog 24 #[.string s] w fun e w' => WrittenPost s e ∧ w' = w := by
  have HB : Hid (BadAt s 0) := Or.inl ⟨rfl, h⟩
  by_cases h0 : s.size = 0
  · have h0' : ((s.size : Int) == 0) = true := beq_iff_eq.2 (by omega)
    clear h0
    go_enter Tryz.func24, Tryz.ntmps24
    go_wp2_with fail
    go_ret3
    exact ⟨Or.inl ⟨0, 0, unhide HB, rfl⟩, rfl⟩
  · have h0' : ((s.size : Int) == 0) = false := beq_eq_false_iff_ne.2 (by omega)
    have hpos : 0 < s.size := by omega
    have hbq := bt_eq s 0 hpos
    have ⟨hb0, hb1⟩ := bt_bd s 0
    by_cases h1 : bt s 0 < 49
    · have h1' : decide (bt s 0 < 49) = true := by simpa using h1
      generalize bt s 0 = c at *
      clear h0
      go_enter Tryz.func24, Tryz.ntmps24
      go_wp2_with fail
      go_ret3
      exact ⟨Or.inl ⟨0, 0, unhide HB, rfl⟩, rfl⟩
    · have h1' : decide (bt s 0 < 49) = false := by simp; omega
      have h2 : 56 < bt s 0 := by
        rcases Int.lt_or_le 56 (bt s 0) with hh | hh
        · exact hh
        · obtain ⟨n, _, hn⟩ := FirstOk_of s hpos (by omega) hh
          exact absurd hn (h n)
      have h2' : decide (56 < bt s 0) = true := by simpa using h2
      generalize bt s 0 = c at *
      clear h0
      go_enter Tryz.func24, Tryz.ntmps24
      go_wp2_with fail
      go_ret3
      exact ⟨Or.inl ⟨0, 0, unhide HB, rfl⟩, rfl⟩

set_option maxHeartbeats 1000000 in
theorem written_ok (w : World) (s : ByteArray) (n : Nat) (h : FirstOk s n) (hsz : s.size ≤ 65) :
    Calls Tryz.prog 24 #[.string s] w fun e w' => WrittenPost s e ∧ w' = w := by
  have HO := hide h
  have ⟨hpos, hb⟩ := FirstOk_bd h
  have h1 := h.2.2.1
  have h8 := h.2.2.2
  have hbq := bt_eq s 0 hpos
  rw [hb] at hbq
  have h0' : ((s.size : Int) == 0) = false := beq_eq_false_iff_ne.2 (by omega)
  have h1' : decide (48 + (n : Int) < 49) = false := by simp; omega
  have h2' : decide (56 < 48 + (n : Int)) = false := by simp; omega
  have h3' : 48 + (n : Int) ≤ 56 := by omega
  have HN := hide (show 48 + (n : Int) - 48 = n by omega)
  clear h hb
  go_enter Tryz.func24, Tryz.ntmps24
  go_wp2_with fail
  rw [unhide HN]
  go_loop [6] (fun d => ∃ k : Nat, 1 ≤ k ∧ k ≤ s.size ∧ d = .int .i64 (k : Int) ∧ ∀ i, 1 ≤ i → i < k → digB s i n = true) (fun d => s.size - (intOf d).toNat)
  case atStart => exact ⟨1, by omega, by omega, rfl, fun i h1 h2 => by omega⟩
  case round =>
    obtain ⟨k, hk1, hks, rfl, hall⟩ := hrel
    have HA := hide hall
    clear hall
    by_cases hlt : k < s.size
    · have hlt' : (k : Int) < (s.size : Int) := by omega
      have hbk := bt_eq s k hlt
      have ⟨hb0, hb1⟩ := bt_bd s k
      cases hd1 : digB s k n
      · have HBad : Hid (BadAt s k) := Or.inr ⟨n, unhide HO, hk1, by omega, unhide HA, hd1, fun e => absurd e (by omega)⟩
        have HD := hide (dgt_neg hlt hd1)
        generalize bt s k = c at *
        go_wp2_with fail
        refine (digit_any _ _ _ hb0 hb1).mono ?_
        rintro e w' ⟨rfl, rfl⟩
        rw [unhide HD]
        go_wp2_with fail
        go_ret3
        exact ⟨Or.inl ⟨k, 0, unhide HBad, rfl⟩, rfl⟩
      · obtain ⟨i, hv1, hi, -, -⟩ := digV_bd hd1
        have HD := hide (show dgt (bt s k) n = (i : Int) by rw [dgt_pos hd1, hv1])
        have hii : decide ((i : Int) < 0) = false := by simp
        generalize bt s k = c at *
        go_wp2_with fail
        refine (digit_any _ _ _ hb0 hb1).mono ?_
        rintro e w' ⟨rfl, rfl⟩
        rw [unhide HD]
        go_wp2_with fail
        go_round
        case rel => exact ⟨k + 1, by omega, by omega, by go_num, fun x h1 h2 => by
          by_cases e : x = k
          · rw [e]; exact hd1
          · exact unhide HA x h1 (by omega)⟩
        case measure => simp [intOf]; omega
    · have HKS := hide (show k = s.size by omega)
      by_cases hodd : s.size % 2 = 1
      · have HGood : Hid (GoodOrd s n) := ⟨unhide HO, hodd, fun i h1 h2 => unhide HA i h1 (by omega)⟩
        have ho' : ((s.size : Int) % 2 == 1) = true := by simp; omega
        clear hodd
        go_wp2_with fail
        go_ret3
        exact ⟨Or.inr ⟨n, unhide HGood, rfl⟩, rfl⟩
      · have HBad : Hid (BadAt s s.size) := Or.inr ⟨n, unhide HO, by omega, by omega, fun i h1 h2 => unhide HA i h1 (by omega), digB_no (by omega), fun _ => by omega⟩
        have ho' : ((s.size : Int) % 2 == 1) = false := by simp; omega
        clear hodd
        go_wp2_with fail
        go_ret3
        exact ⟨Or.inl ⟨s.size, n, unhide HBad, rfl⟩, rfl⟩

end Go.Proofs.YtfcflnnleadpkaaGreat

namespace Go.Proofs.YtfcflnnleadpkaaGreat
open Go.RowKit

/-- The cells of a Scan. -/
def scC (s : ByteArray) (i : Nat) (bad : Bool) (N nv : Nat) (v : Value) : Array Value := #[.string s, .int .i64 (i : Int), .bool bad, .int .i64 (N : Int), .int .i64 (nv : Int), v]
/-- A Scan in memory at the block b. -/
def Scn (w : World) (b : Nat) (s : ByteArray) (i : Nat) (bad : Bool) (N nv : Nat) (v : Value) : Prop := w.heap[b]? = some (.cells (scC s i bad N nv v) 95 (0, 0))

variable {w : World} {b : Nat} {s : ByteArray} {i : Nat} {bad : Bool} {N nv : Nat} {v : Value}

theorem Scn.c0 (h : Scn w b s i bad N nv v) : w.cell? ⟨b, 0, none⟩ = some (.string s) := by rw [cell_of_row w b 0 _ _ _ h]; rfl
theorem Scn.c1 (h : Scn w b s i bad N nv v) : w.cell? ⟨b, 1, none⟩ = some (.int .i64 (i : Int)) := by rw [cell_of_row w b 1 _ _ _ h]; rfl
theorem Scn.c2 (h : Scn w b s i bad N nv v) : w.cell? ⟨b, 2, none⟩ = some (.bool bad) := by rw [cell_of_row w b 2 _ _ _ h]; rfl
theorem Scn.c3 (h : Scn w b s i bad N nv v) : w.cell? ⟨b, 3, none⟩ = some (.int .i64 (N : Int)) := by rw [cell_of_row w b 3 _ _ _ h]; rfl
theorem Scn.c4 (h : Scn w b s i bad N nv v) : w.cell? ⟨b, 4, none⟩ = some (.int .i64 (nv : Int)) := by rw [cell_of_row w b 4 _ _ _ h]; rfl
theorem Scn.c5 (h : Scn w b s i bad N nv v) : w.cell? ⟨b, 5, none⟩ = some v := by rw [cell_of_row w b 5 _ _ _ h]; rfl
theorem Scn.fz (h : Scn w b s i bad N nv v) (j : Nat) : w.frozen? ⟨b, j, none⟩ = false := frozen_of_row w b j _ _ h
theorem Scn.set1 (h : Scn w b s i bad N nv v) (x : Int) (k : Nat) (hx : x = (k : Int)) : w.setCell ⟨b, 1, none⟩ (.int .i64 x) = w.setRow b (scC s k bad N nv v) := by
  subst hx
  rw [setCell_eq_setRow w b _ _ _ _ _ h]; rfl
theorem Scn.set2 (h : Scn w b s i bad N nv v) (x : Bool) : w.setCell ⟨b, 2, none⟩ (.bool x) = w.setRow b (scC s i x N nv v) := by
  rw [setCell_eq_setRow w b _ _ _ _ _ h]; rfl
theorem Scn.row (h : Scn w b s i bad N nv v) (j : Nat) (y : Bool) (v' : Value) : Scn (w.setRow b (scC s j y N nv v')) b s j y N nv v' := setRow_heap w b _ _ _ _ h
theorem Scn.drewN (h : Scn w b s i bad N nv v) (q : Nat) : Scn (w.drewN q) b s i bad N nv v := h
theorem Scn.self (h : Scn w b s i bad N nv v) : w.setRow b (scC s i bad N nv v) = w := setRow_self w b _ _ _ h
theorem setRow_drewN (w : World) (q g : Nat) (c : Array Value) : (w.drewN q).setRow g c = (w.setRow g c).drewN q := rfl
theorem setCell_drewN (w : World) (q : Nat) (a : Addr) (x : Value) : (w.drewN q).setCell a x = (w.setCell a x).drewN q := rfl

theorem drew_ex {w : World} {a b : Nat} : ∃ q, (w.drewN a).drewN b = w.drewN q := ⟨a + b, by simp⟩

set_option maxHeartbeats 400000 in
theorem peek_any (h : Scn w b s i bad N nv v) :
    Calls Tryz.prog 61 #[.pointer (some ⟨b, 0, none⟩)] w fun e w' => e = .returned (.int .u8 (bt s i)) ∧ ∃ q, w' = w.drewN q := by
  have k0 := h.c0
  have k1 := h.c1
  by_cases hk : i < s.size
  · have hbq := bt_eq s i hk
    have q1 : decide ((s.size : Int) ≤ (i : Int)) = false := by simp; omega
    have q2 : (i : Int) < (s.size : Int) := by omega
    generalize bt s i = c at *
    go_enter Tryz.func61, Tryz.ntmps61
    go_wp2_with fail
    go_quiet (fail)
    go_wp2_with fail
    go_quiet (fail)
    go_wp2_with fail
    go_ret
    exact ⟨rfl, drew_ex⟩
  · have HB := hide (show bt s i = 0 by simp [bt, hk])
    have q1 : decide ((s.size : Int) ≤ (i : Int)) = true := by simp; omega
    go_enter Tryz.func61, Tryz.ntmps61
    go_wp2_with fail
    go_quiet (fail)
    go_wp2_with fail
    go_ret
    exact ⟨by rw [unhide HB]; rfl, _, rfl⟩

/-- What a reader leaves: the Scan turned, and draws. -/
def ScTo (w : World) (b : Nat) (s : ByteArray) (N nv : Nat) (v : Value) (r : Nat × Bool) (w' : World) : Prop := ∃ q, w' = (w.setRow b (scC s r.1 r.2 N nv v)).drewN q

def dgS (c : Nat → Int) (n : Int) (i : Nat) : Nat × Bool := if isDB (c i) n = true then (i + 1, false) else (i, true)
def vrS (c : Nat → Int) (nv : Nat) (i : Nat) : Nat × Bool := if isVar nv (c i) = true then (i + 1, false) else (i, true)

theorem ScTo.two {w : World} {b : Nat} {s : ByteArray} {N nv : Nat} {v v1 : Value} {r r1 : Nat × Bool} {q : Nat} {w' : World} (h : ScTo ((w.setRow b (scC s r1.1 r1.2 N nv v1)).drewN q) b s N nv v r w') : ScTo w b s N nv v r w' := by
  obtain ⟨q', rfl⟩ := h
  exact ⟨q + q', by rw [setRow_drewN, setRow_setRow]; simp⟩
theorem ScTo.drew {w : World} {b : Nat} {s : ByteArray} {N nv : Nat} {v : Value} {r : Nat × Bool} {q : Nat} {w' : World} (h : ScTo (w.drewN q) b s N nv v r w') : ScTo w b s N nv v r w' := by
  obtain ⟨q', rfl⟩ := h
  exact ⟨q + q', by rw [setRow_drewN]; simp⟩
theorem ScTo.scn {w w' : World} {b : Nat} {s : ByteArray} {i : Nat} {bad : Bool} {N nv : Nat} {v v' : Value} {r : Nat × Bool} (h : ScTo w b s N nv v' r w') (hs : Scn w b s i bad N nv v) : Scn w' b s r.1 r.2 N nv v' := by
  obtain ⟨q, rfl⟩ := h
  exact hs.row r.1 r.2 v'
theorem ScTo.same (h : Scn w b s i bad N nv v) (q : Nat) : ScTo w b s N nv v (i, bad) (w.drewN q) := ⟨q, by rw [h.self]⟩

set_option maxHeartbeats 400000 in
theorem scanDigit_any (n : Int) (h : Scn w b s i false N nv v) (_hi : i ≤ 400) :
    Calls Tryz.prog 93 #[.pointer (some ⟨b, 0, none⟩), .int .i64 n] w fun e w' => e = .returned (.tuple #[]) ∧ ScTo w b s N nv v (dgS (bt s) n i) w' := by
  have ⟨hb0, hb1⟩ := bt_bd s i
  cases hd : isDB (bt s i) n
  · have HS := hide (show dgS (bt s) n i = (i, true) by simp [dgS, hd])
    have HD := hide (show dgt (bt s i) n = -1 by unfold dgt; rw [hd]; rfl)
    go_enter Tryz.func93, Tryz.ntmps93
    go_wp2_with fail
    refine (peek_any h).mono ?_
    rintro e w1 ⟨rfl, q, rfl⟩
    go_wp2_with fail
    refine (digit_any _ _ _ hb0 hb1).mono ?_
    rintro e w' ⟨rfl, rfl⟩
    rw [unhide HD]
    have k2 := h.c2
    have kz := h.fz 2
    have HH := hide h
    clear h
    go_wp2_with fail
    go_end0
    exact ⟨rfl, by rw [unhide HS]; exact ⟨q, by rw [setCell_drewN, (unhide HH).set2]⟩⟩
  · have HS := hide (show dgS (bt s) n i = (i + 1, false) by simp [dgS, hd])
    have hv := (isDB_iff (bt s i) n).1 hd
    have HD := hide (show dgt (bt s i) n = bt s i - 48 by unfold dgt; rw [hd]; rfl)
    have hlt : decide (bt s i - 48 < 0) = false := by simp; omega
    go_enter Tryz.func93, Tryz.ntmps93
    go_wp2_with fail
    refine (peek_any h).mono ?_
    rintro e w1 ⟨rfl, q, rfl⟩
    go_wp2_with fail
    refine (digit_any _ _ _ hb0 hb1).mono ?_
    rintro e w' ⟨rfl, rfl⟩
    rw [unhide HD]
    have k1 := h.c1
    have kz := h.fz 1
    have HH := hide h
    clear h
    generalize bt s i = c at *
    go_wp2_with fail
    go_end0
    exact ⟨rfl, by rw [unhide HS]; exact ⟨q, by rw [setCell_drewN, (unhide HH).set1 _ (i + 1) (by omega)]⟩⟩

set_option maxHeartbeats 400000 in
theorem scanVar_any (h : Scn w b s i false N nv v) (_hi : i ≤ 400) :
    Calls Tryz.prog 92 #[.pointer (some ⟨b, 0, none⟩)] w fun e w' => e = .returned (.tuple #[]) ∧ ScTo w b s N nv v (vrS (bt s) nv i) w' := by
  have ⟨hb0, hb1⟩ := bt_bd s i
  have k4 := h.c4
  have HH := hide h
  clear h
  by_cases g1 : bt s i < 97
  · have HS := hide (show vrS (bt s) nv i = (i, true) by
      have : isVar nv (bt s i) = false := by unfold isVar; rw [decide_eq_false (by omega)]; rfl
      simp [vrS, this])
    have p1 : decide (bt s i < 97) = true := by simpa using g1
    have k2 := (unhide HH).c2
    have kz := (unhide HH).fz 2
    go_enter Tryz.func92, Tryz.ntmps92
    go_wp2_with fail
    refine (peek_any (unhide HH)).mono ?_
    rintro e w1 ⟨rfl, q, rfl⟩
    go_wp2_with fail
    go_end0
    exact ⟨rfl, by rw [unhide HS]; exact ⟨q, by rw [setCell_drewN, (unhide HH).set2]⟩⟩
  have p1 : decide (bt s i < 97) = false := by simpa using g1
  by_cases g2 : (nv : Int) ≤ bt s i - 97
  · have HS := hide (show vrS (bt s) nv i = (i, true) by
      have : isVar nv (bt s i) = false := by unfold isVar; rw [decide_eq_false (p := bt s i - 97 < (nv : Int)) (by omega)]; simp
      simp [vrS, this])
    have p2 : decide ((nv : Int) ≤ bt s i - 97) = true := by simpa using g2
    have k2 := (unhide HH).c2
    have kz := (unhide HH).fz 2
    go_enter Tryz.func92, Tryz.ntmps92
    go_wp2_with fail
    refine (peek_any (unhide HH)).mono ?_
    rintro e w1 ⟨rfl, q, rfl⟩
    go_wp2_with fail
    go_end0
    exact ⟨rfl, by rw [unhide HS]; exact ⟨q, by rw [setCell_drewN, (unhide HH).set2]⟩⟩
  have p2 : decide ((nv : Int) ≤ bt s i - 97) = false := by simpa using g2
  have HS := hide (show vrS (bt s) nv i = (i + 1, false) by
    have : isVar nv (bt s i) = true := by unfold isVar; rw [decide_eq_true (p := bt s i - 97 < (nv : Int)) (by omega), decide_eq_true (by omega)]; rfl
    simp [vrS, this])
  have k1 := (unhide HH).c1
  have kz := (unhide HH).fz 1
  go_enter Tryz.func92, Tryz.ntmps92
  go_wp2_with fail
  refine (peek_any (unhide HH)).mono ?_
  rintro e w1 ⟨rfl, q, rfl⟩
  generalize bt s i = c at *
  go_wp2_with fail
  go_end0
  exact ⟨rfl, by rw [unhide HS]; exact ⟨q, by rw [setCell_drewN, (unhide HH).set1 _ (i + 1) (by omega)]⟩⟩

set_option maxHeartbeats 400000 in
theorem op_any (w : World) (x : Int) : Calls Tryz.prog 96 #[.int .u8 x] w fun e w' => e = .returned (.bool (isOp x)) ∧ w' = w := by
  have HF := hide (show isOp x = (x == 43 || x == 45 || x == 42 || x == 47 || x == 60) from rfl)
  cases h1 : (x == 43)
  · cases h2 : (x == 45)
    · cases h3 : (x == 42)
      · cases h4 : (x == 47)
        · go_enter Tryz.func96, Tryz.ntmps96
          go_wp2_with fail
          go_ret
          exact ⟨by rw [unhide HF, h1, h2, h3, h4]; rfl, rfl⟩
        · go_enter Tryz.func96, Tryz.ntmps96
          go_wp2_with fail
          go_ret
          exact ⟨by rw [unhide HF, h1, h2, h3, h4]; rfl, rfl⟩
      · go_enter Tryz.func96, Tryz.ntmps96
        go_wp2_with fail
        go_ret
        exact ⟨by rw [unhide HF, h1, h2, h3]; rfl, rfl⟩
    · go_enter Tryz.func96, Tryz.ntmps96
      go_wp2_with fail
      go_ret
      exact ⟨by rw [unhide HF, h1, h2]; rfl, rfl⟩
  · go_enter Tryz.func96, Tryz.ntmps96
    go_wp2_with fail
    go_ret
    exact ⟨by rw [unhide HF, h1]; rfl, rfl⟩

theorem bt_lt {s : ByteArray} {i : Nat} (h : bt s i ≠ 0) : i < s.size := by
  unfold bt at h; split at h
  · assumption
  · exact absurd rfl h
theorem isOp_lt {s : ByteArray} {i : Nat} (h : isOp (bt s i) = true) : i < s.size := by
  refine bt_lt (fun e => ?_)
  rw [e] at h; cases h
theorem isDB_lt {s : ByteArray} {i : Nat} {n : Int} (h : isDB (bt s i) n = true) : i < s.size := by
  refine bt_lt (fun e => ?_)
  rw [e] at h
  have := (isDB_iff 0 n).1 h
  omega
theorem isVar_lt {s : ByteArray} {i nv : Nat} (h : isVar nv (bt s i) = true) : i < s.size := by
  refine bt_lt (fun e => ?_)
  rw [e] at h
  unfold isVar at h
  simp at h
theorem scE_sz (s : ByteArray) (nv f i : Nat) (hi : i ≤ s.size) : (scE (bt s) nv f i).1 ≤ s.size := by
  induction f generalizing i with
  | zero => simpa [scE] using hi
  | succ f ih =>
    cases h : isOp (bt s i)
    · cases h2 : isDB (bt s i) 10
      · cases h3 : isVar nv (bt s i)
        · rw [scE_bad h h2 h3]; exact hi
        · rw [scE_var h h2 h3]; exact isVar_lt h3
      · rw [scE_dig h h2]; exact isDB_lt h2
    · rw [scE_op h]
      have h1 := ih (i + 1) (isOp_lt h)
      split
      · exact h1
      · exact ih _ h1

set_option maxHeartbeats 1000000 in
theorem scanExpr_any (b : Nat) (s : ByteArray) (N nv : Nat) (v : Value) (hs : s.size ≤ 300) : ∀ (f : Nat) (w : World) (i : Nat), Scn w b s i false N nv v → s.size < i + f → i ≤ s.size →
    Calls Tryz.prog 94 #[.pointer (some ⟨b, 0, none⟩)] w fun e w' => e = .returned (.tuple #[]) ∧ ScTo w b s N nv v (scE (bt s) nv f i) w' := by
  intro f
  induction f with
  | zero => intro w i h hf hi; omega
  | succ f ih0 =>
    intro w i h hf hi
    have IH := hide ih0
    clear ih0
    have HH := hide h
    clear h
    have ⟨hb0, hb1⟩ := bt_bd s i
    cases ho : isOp (bt s i)
    · cases hd : isDB (bt s i) 10
      · have HD := hide (show dgt (bt s i) 10 = -1 by unfold dgt; rw [hd]; rfl)
        have HE := hide (show scE (bt s) nv (f + 1) i = vrS (bt s) nv i by
          unfold vrS
          cases h3 : isVar nv (bt s i)
          · rw [scE_bad ho hd h3]; rfl
          · rw [scE_var ho hd h3]; rfl)
        go_enter Tryz.func94, Tryz.ntmps94
        go_wp2_with fail
        refine (peek_any (unhide HH)).mono ?_
        rintro e w1 ⟨rfl, q, rfl⟩
        go_wp2_with fail
        refine (op_any _ _).mono ?_
        rintro e w' ⟨rfl, rfl⟩
        rw [ho]
        go_wp2_with fail
        refine (digit_any _ _ _ hb0 hb1).mono ?_
        rintro e w' ⟨rfl, rfl⟩
        rw [unhide HD]
        go_wp2_with fail
        refine (scanVar_any ((unhide HH).drewN q) (by omega)).mono ?_
        rintro e w2 ⟨rfl, hw2⟩
        have HW := hide hw2
        clear hw2
        go_wp2_with fail
        go_end0
        exact ⟨rfl, by rw [unhide HE]; exact (unhide HW).drew⟩
      · have hv := (isDB_iff (bt s i) 10).1 hd
        have HD := hide (show dgt (bt s i) 10 = bt s i - 48 by unfold dgt; rw [hd]; rfl)
        have HE := hide (scE_dig (c := bt s) (nv := nv) (f := f) ho hd)
        have hge : decide (0 ≤ bt s i - 48) = true := by simp; omega
        have k1 := (unhide HH).c1
        have kz := (unhide HH).fz 1
        go_enter Tryz.func94, Tryz.ntmps94
        go_wp2_with fail
        refine (peek_any (unhide HH)).mono ?_
        rintro e w1 ⟨rfl, q, rfl⟩
        go_wp2_with fail
        refine (op_any _ _).mono ?_
        rintro e w' ⟨rfl, rfl⟩
        rw [ho]
        go_wp2_with fail
        refine (digit_any _ _ _ hb0 hb1).mono ?_
        rintro e w' ⟨rfl, rfl⟩
        rw [unhide HD]
        generalize bt s i = c at *
        go_wp2_with fail
        go_end0
        exact ⟨rfl, by rw [unhide HE]; exact ⟨q, by rw [setCell_drewN, (unhide HH).set1 _ (i + 1) (by omega)]⟩⟩
    · have hlt := isOp_lt ho
      have HE := hide (scE_op (c := bt s) (nv := nv) (f := f) ho)
      have HZ := hide (scE_sz s nv f (i + 1) hlt)
      have HL := hide (scE_le (bt s) nv f (i + 1))
      have k1 := (unhide HH).c1
      have kz := (unhide HH).fz 1
      go_enter Tryz.func94, Tryz.ntmps94
      go_wp2_with fail
      refine (peek_any (unhide HH)).mono ?_
      rintro e w1 ⟨rfl, q, rfl⟩
      go_wp2_with fail
      refine (op_any _ _).mono ?_
      rintro e w' ⟨rfl, rfl⟩
      rw [ho]
      go_wp2_with fail
      rw [setCell_drewN, (unhide HH).set1 _ (i + 1) (by omega)]
      refine (unhide IH _ (i + 1) (((unhide HH).row (i + 1) false v).drewN q) (by omega) hlt).mono ?_
      rintro e w2 ⟨rfl, hto⟩
      have HS2 := hide (hto.scn (((unhide HH).row (i + 1) false v).drewN q))
      have HTO := hide hto
      clear hto
      cases hr : (scE (bt s) nv f (i + 1)).2
      · have k2 := (unhide HS2).c2
        rw [hr] at k2
        have HS3 := hide (show Scn w2 b s (scE (bt s) nv f (i + 1)).1 false N nv v by have := unhide HS2; rw [hr] at this; exact this)
        have HE2 := hide (show scE (bt s) nv (f + 1) i = scE (bt s) nv f (scE (bt s) nv f (i + 1)).1 by rw [unhide HE, hr]; rfl)
        go_wp2_with fail
        refine (unhide IH _ _ (unhide HS3) (by have := unhide HL; omega) (unhide HZ)).mono ?_
        rintro e w3 ⟨rfl, hto3⟩
        have HT3 := hide hto3
        clear hto3
        go_wp2_with fail
        go_end0
        exact ⟨rfl, by
          rw [unhide HE2]
          have h1 := unhide HTO
          obtain ⟨q2, rfl⟩ := h1
          exact (ScTo.two (r1 := (i + 1, false)) (ScTo.two (unhide HT3)))⟩
      · have k2 := (unhide HS2).c2
        rw [hr] at k2
        have HE2 := hide (show scE (bt s) nv (f + 1) i = scE (bt s) nv f (i + 1) by rw [unhide HE, hr]; rfl)
        go_wp2_with fail
        go_end0
        exact ⟨rfl, by rw [unhide HE2]; exact (ScTo.two (r1 := (i + 1, false)) (unhide HTO))⟩

end Go.Proofs.YtfcflnnleadpkaaGreat
