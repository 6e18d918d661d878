import Derived.KernelRfl
import Derived.Test.YtegnagenjoelkaaProg
import Derived.WalkKit
import Derived.WalkSpells
import Derived.WalkLawsBesides
import Derived.Outline
import Derived.Laws.Tables
import Derived.Laws.Rows
import Derived.Laws.CopyRow
import Derived.BigQuiet
import Derived.Deep.QuietTactic
import Derived.Deep.RegionLaw
import Derived.Deep.AppendLies
import Derived.OwnWalk
/- Plain facts on levels: no program in sight. -/
namespace Hm

def firstB (p : Nat → Bool) : Nat → Nat → Int
  | 0, _ => -1
  | f + 1, k => if p k = true then (k : Int) else firstB p f (k + 1)
def allB (p : Nat → Bool) : Nat → Nat → Bool
  | 0, _ => true
  | f + 1, k => p k && allB p f (k + 1)
def anyB (p : Nat → Bool) : Nat → Nat → Bool
  | 0, _ => false
  | f + 1, k => p k || anyB p f (k + 1)

theorem firstB_yes {p : Nat → Bool} {n k : Nat} (hk : k < n) (h : p k = true) : firstB p (n - k) k = (k : Int) := by
  obtain ⟨m, hm⟩ : ∃ m, n - k = m + 1 := ⟨n - k - 1, by omega⟩
  rw [hm]; simp [firstB, h]
theorem firstB_no {p : Nat → Bool} {n k : Nat} (hk : k < n) (h : p k = false) : firstB p (n - k) k = firstB p (n - (k + 1)) (k + 1) := by
  obtain ⟨m, hm⟩ : ∃ m, n - k = m + 1 := ⟨n - k - 1, by omega⟩
  have h2 : n - (k + 1) = m := by omega
  rw [hm, h2]; simp [firstB, h]
theorem allB_yes {p : Nat → Bool} {n k : Nat} (hk : k < n) (h : p k = true) : allB p (n - k) k = allB p (n - (k + 1)) (k + 1) := by
  obtain ⟨m, hm⟩ : ∃ m, n - k = m + 1 := ⟨n - k - 1, by omega⟩
  have h2 : n - (k + 1) = m := by omega
  rw [hm, h2]; simp [allB, h]
theorem allB_no {p : Nat → Bool} {n k : Nat} (hk : k < n) (h : p k = false) : allB p (n - k) k = false := by
  obtain ⟨m, hm⟩ : ∃ m, n - k = m + 1 := ⟨n - k - 1, by omega⟩
  rw [hm]; simp [allB, h]
theorem anyB_yes {p : Nat → Bool} {n k : Nat} (hk : k < n) (h : p k = true) : anyB p (n - k) k = true := by
  obtain ⟨m, hm⟩ : ∃ m, n - k = m + 1 := ⟨n - k - 1, by omega⟩
  rw [hm]; simp [anyB, h]
theorem anyB_no {p : Nat → Bool} {n k : Nat} (hk : k < n) (h : p k = false) : anyB p (n - k) k = anyB p (n - (k + 1)) (k + 1) := by
  obtain ⟨m, hm⟩ : ∃ m, n - k = m + 1 := ⟨n - k - 1, by omega⟩
  have h2 : n - (k + 1) = m := by omega
  rw [hm, h2]; simp [anyB, h]
theorem firstB_end {p : Nat → Bool} {n k : Nat} (hk : n ≤ k) : firstB p (n - k) k = -1 := by
  rw [show n - k = 0 from by omega]; rfl
theorem allB_end {p : Nat → Bool} {n k : Nat} (hk : n ≤ k) : allB p (n - k) k = true := by
  rw [show n - k = 0 from by omega]; rfl
theorem anyB_end {p : Nat → Bool} {n k : Nat} (hk : n ≤ k) : anyB p (n - k) k = false := by
  rw [show n - k = 0 from by omega]; rfl

theorem allB_iff (p : Nat → Bool) (f k : Nat) : allB p f k = true ↔ ∀ d, k ≤ d → d < k + f → p d = true := by
  induction f generalizing k with
  | zero => simp [allB]; omega
  | succ f ih =>
    simp only [allB, Bool.and_eq_true, ih]
    constructor
    · rintro ⟨h1, h2⟩ d hd1 hd2
      by_cases e : d = k
      · rw [e]; exact h1
      · exact h2 d (by omega) (by omega)
    · intro h
      exact ⟨h k (by omega) (by omega), fun d hd1 hd2 => h d (by omega) (by omega)⟩
theorem anyB_iff (p : Nat → Bool) (f k : Nat) : anyB p f k = true ↔ ∃ d, k ≤ d ∧ d < k + f ∧ p d = true := by
  induction f generalizing k with
  | zero => simp [anyB]; omega
  | succ f ih =>
    simp only [anyB, Bool.or_eq_true, ih]
    constructor
    · rintro (h1 | ⟨d, h1, h2, h3⟩)
      · exact ⟨k, by omega, by omega, h1⟩
      · exact ⟨d, by omega, by omega, h3⟩
    · rintro ⟨d, h1, h2, h3⟩
      by_cases e : d = k
      · left; rw [← e]; exact h3
      · right; exact ⟨d, by omega, by omega, h3⟩
theorem firstB_spec (p : Nat → Bool) (f k : Nat) :
    (∃ c : Nat, k ≤ c ∧ c < k + f ∧ p c = true ∧ firstB p f k = (c : Int)) ∨ (firstB p f k = -1 ∧ ∀ d, k ≤ d → d < k + f → p d = false) := by
  induction f generalizing k with
  | zero => right; exact ⟨rfl, fun d h1 h2 => by omega⟩
  | succ f ih =>
    cases h : p k with
    | true => left; exact ⟨k, by omega, by omega, h, by simp [firstB, h]⟩
    | false =>
      rcases ih (k + 1) with ⟨c, h1, h2, h3, h4⟩ | ⟨h1, h2⟩
      · left; exact ⟨c, by omega, by omega, h3, by simp [firstB, h, h4]⟩
      · right
        refine ⟨by simp [firstB, h, h1], fun d hd1 hd2 => ?_⟩
        by_cases e : d = k
        · rw [e]; exact h
        · exact h2 d (by omega) (by omega)
theorem firstB_lt (p : Nat → Bool) (n : Nat) : firstB p n 0 < (n : Int) ∧ -1 ≤ firstB p n 0 := by
  rcases firstB_spec p n 0 with ⟨c, h1, h2, h3, h4⟩ | ⟨h1, h2⟩
  · rw [h4]; omega
  · rw [h1]; omega
theorem firstB_congr (p q : Nat → Bool) (f k : Nat) (h : ∀ d, k ≤ d → d < k + f → p d = q d) : firstB p f k = firstB q f k := by
  induction f generalizing k with
  | zero => rfl
  | succ f ih => simp only [firstB, h k (by omega) (by omega)]; rw [ih (k + 1) (fun d h1 h2 => h d (by omega) (by omega))]
theorem allB_congr (p q : Nat → Bool) (f k : Nat) (h : ∀ d, k ≤ d → d < k + f → p d = q d) : allB p f k = allB q f k := by
  induction f generalizing k with
  | zero => rfl
  | succ f ih => simp only [allB, h k (by omega) (by omega)]; rw [ih (k + 1) (fun d h1 h2 => h d (by omega) (by omega))]

def both (R : Nat → Nat → Bool) (a b c : Nat) : Bool := R a c && R b c
/-- c is a join of a and b. -/
def lubD (R : Nat → Nat → Bool) (a b c d : Nat) : Bool := !(both R a b d && !(R c d))
def lub (R : Nat → Nat → Bool) (n a b c : Nat) : Bool := both R a b c && allB (lubD R a b c) n 0
def glbD (R : Nat → Nat → Bool) (a b c d : Nat) : Bool := !(R d a && R d b && !(R d c))
def glb (R : Nat → Nat → Bool) (n a b c : Nat) : Bool := (R c a && R c b) && allB (glbD R a b c) n 0
def joinI (R : Nat → Nat → Bool) (n a b : Nat) : Int := firstB (lub R n a b) n 0
def meets (R : Nat → Nat → Bool) (n a b : Nat) : Bool := anyB (glb R n a b) n 0
def circD (R : Nat → Nat → Bool) (a b : Nat) : Bool := R a b && R b a
def circRow (R : Nat → Nat → Bool) (a : Nat) : Bool := anyB (circD R a) a 0
def circ (R : Nat → Nat → Bool) (n : Nat) : Bool := anyB (circRow R) n 0
def hasD (R : Nat → Nat → Bool) (n a b : Nat) : Bool := !(joinI R n a b == -1)
def hasRow (R : Nat → Nat → Bool) (n a : Nat) : Bool := allB (hasD R n a) a 0
def hasJ (R : Nat → Nat → Bool) (n : Nat) : Bool := allB (hasRow R n) n 0
def flip (R : Nat → Nat → Bool) (a b : Nat) : Bool := R b a
def wellC (R : Nat → Nat → Bool) (n : Nat) : Bool := (!(circ R n) && hasJ R n) && hasJ (flip R) n
def wellRow (R : Nat → Nat → Bool) (n a b : Nat) : Bool := !((!(a == b) && R a b) && R b a) && !(decide (joinI R n a b < 0) || !(meets R n a b))
def wellLine (R : Nat → Nat → Bool) (n a : Nat) : Bool := allB (wellRow R n a) n 0
def wellR (R : Nat → Nat → Bool) (n : Nat) : Bool := allB (wellLine R n) n 0

theorem lub_iff (R : Nat → Nat → Bool) (n a b c : Nat) : lub R n a b c = true ↔ R a c = true ∧ R b c = true ∧ ∀ d, d < n → R a d = true → R b d = true → R c d = true := by
  simp only [lub, lubD, both, Bool.and_eq_true, allB_iff]
  constructor
  · rintro ⟨⟨h1, h2⟩, h3⟩
    refine ⟨h1, h2, fun d hd h4 h5 => ?_⟩
    have := h3 d (by omega) (by omega)
    simpa [h4, h5] using this
  · rintro ⟨h1, h2, h3⟩
    refine ⟨⟨h1, h2⟩, fun d _ hd => ?_⟩
    have := h3 d (by omega)
    cases e1 : R a d <;> cases e2 : R b d <;> simp_all
theorem glb_iff (R : Nat → Nat → Bool) (n a b c : Nat) : glb R n a b c = true ↔ R c a = true ∧ R c b = true ∧ ∀ d, d < n → R d a = true → R d b = true → R d c = true := by
  simp only [glb, glbD, Bool.and_eq_true, allB_iff]
  constructor
  · rintro ⟨⟨h1, h2⟩, h3⟩
    refine ⟨h1, h2, fun d hd h4 h5 => ?_⟩
    have := h3 d (by omega) (by omega)
    simpa [h4, h5] using this
  · rintro ⟨h1, h2, h3⟩
    refine ⟨⟨h1, h2⟩, fun d _ hd => ?_⟩
    have := h3 d (by omega)
    cases e1 : R d a <;> cases e2 : R d b <;> simp_all
theorem joinI_ok_iff (R : Nat → Nat → Bool) (n a b : Nat) : joinI R n a b ≠ -1 ↔ ∃ c, c < n ∧ lub R n a b c = true := by
  unfold joinI
  rcases firstB_spec (lub R n a b) n 0 with ⟨c, h1, h2, h3, h4⟩ | ⟨h1, h2⟩
  · rw [h4]; exact ⟨fun _ => ⟨c, by omega, h3⟩, fun _ => by omega⟩
  · rw [h1]
    refine ⟨fun h => absurd rfl h, fun ⟨c, hc, h⟩ => ?_⟩
    rw [h2 c (by omega) (by omega)] at h; cases h
theorem meets_iff (R : Nat → Nat → Bool) (n a b : Nat) : meets R n a b = true ↔ ∃ c, c < n ∧ glb R n a b c = true := by
  unfold meets; rw [anyB_iff]
  exact ⟨fun ⟨d, _, h2, h3⟩ => ⟨d, by omega, h3⟩, fun ⟨d, h2, h3⟩ => ⟨d, by omega, by omega, h3⟩⟩
theorem hasJ_iff (R : Nat → Nat → Bool) (n : Nat) : hasJ R n = true ↔ ∀ a b, a < n → b < a → ∃ c, c < n ∧ lub R n a b c = true := by
  simp only [hasJ, hasRow, hasD, allB_iff]
  constructor
  · intro h a b ha hb
    have := h a (by omega) (by omega) b (by omega) (by omega)
    exact (joinI_ok_iff R n a b).1 (by simpa using this)
  · intro h a _ ha b _ hb
    have := (joinI_ok_iff R n a b).2 (h a b (by omega) (by omega))
    simpa using this
theorem lub_symm (R : Nat → Nat → Bool) (n a b c : Nat) (h : lub R n a b c = true) : lub R n b a c = true := by
  rw [lub_iff] at *
  exact ⟨h.2.1, h.1, fun d hd h1 h2 => h.2.2 d hd h2 h1⟩
theorem lub_glb (R : Nat → Nat → Bool) (n a b c : Nat) : lub (flip R) n a b c = glb R n a b c := by
  rw [Bool.eq_iff_iff, lub_iff, glb_iff]; rfl
theorem glb_symm (R : Nat → Nat → Bool) (n a b c : Nat) (h : glb R n a b c = true) : glb R n b a c = true := by
  rw [glb_iff] at *
  exact ⟨h.2.1, h.1, fun d hd h1 h2 => h.2.2 d hd h2 h1⟩
theorem wellRow_iff (R : Nat → Nat → Bool) (n a b : Nat) : wellRow R n a b = true ↔ ¬ (a ≠ b ∧ R a b = true ∧ R b a = true) ∧ (∃ c, c < n ∧ lub R n a b c = true) ∧ (∃ c, c < n ∧ glb R n a b c = true) := by
  rw [← joinI_ok_iff, ← meets_iff]
  have hj := (firstB_lt (lub R n a b) n).2
  have hj' : -1 ≤ joinI R n a b := hj
  unfold wellRow
  have e : decide (joinI R n a b < 0) = decide (joinI R n a b = -1) := by
    rw [decide_eq_decide]; omega
  rw [e]
  by_cases h1 : a = b <;> cases h2 : R a b <;> cases h3 : R b a <;> cases h4 : meets R n a b <;> by_cases h5 : joinI R n a b = -1 <;> simp_all
theorem wellR_iff (R : Nat → Nat → Bool) (n : Nat) : wellR R n = true ↔ ∀ a b, a < n → b < n → wellRow R n a b = true := by
  simp only [wellR, wellLine, allB_iff]
  exact ⟨fun h a b ha hb => h a (by omega) (by omega) b (by omega) (by omega), fun h a _ ha b _ hb => h a b (by omega) (by omega)⟩
theorem circ_iff (R : Nat → Nat → Bool) (n : Nat) : circ R n = true ↔ ∃ a b, a < n ∧ b < a ∧ R a b = true ∧ R b a = true := by
  simp only [circ, circRow, circD, anyB_iff, Bool.and_eq_true]
  constructor
  · rintro ⟨a, _, h2, b, _, h4, h5, h6⟩; exact ⟨a, b, by omega, by omega, h5, h6⟩
  · rintro ⟨a, b, h1, h2, h3, h4⟩; exact ⟨a, by omega, by omega, b, by omega, by omega, h3, h4⟩
theorem wellC_iff (R : Nat → Nat → Bool) (n : Nat) : wellC R n = true ↔ circ R n = false ∧ hasJ R n = true ∧ hasJ (flip R) n = true := by
  simp [wellC, and_assoc]

/-- The program's way and the document's way to ask whether levels are well ordered. -/
theorem well_same (R : Nat → Nat → Bool) (n : Nat) (hr : ∀ i, i < n → R i i = true) : wellC R n = wellR R n := by
  rw [Bool.eq_iff_iff, wellC_iff, wellR_iff]
  constructor
  · rintro ⟨h1, h2, h3⟩ a b ha hb
    rw [hasJ_iff] at h2 h3
    have hc : ¬ ∃ a b, a < n ∧ b < a ∧ R a b = true ∧ R b a = true := by
      rw [← circ_iff, h1]; simp
    rw [wellRow_iff]
    refine ⟨?_, ?_, ?_⟩
    · rintro ⟨e, e1, e2⟩
      rcases Nat.lt_or_gt_of_ne e with h | h
      · exact hc ⟨b, a, hb, h, e2, e1⟩
      · exact hc ⟨a, b, ha, h, e1, e2⟩
    · rcases Nat.lt_trichotomy a b with h | h | h
      · obtain ⟨c, h4, h5⟩ := h2 b a hb h
        exact ⟨c, h4, lub_symm R n b a c h5⟩
      · subst h
        exact ⟨a, ha, (lub_iff R n a a a).2 ⟨hr a ha, hr a ha, fun d _ h4 _ => h4⟩⟩
      · exact h2 a b ha h
    · rcases Nat.lt_trichotomy a b with h | h | h
      · obtain ⟨c, h4, h5⟩ := h3 b a hb h
        rw [lub_glb] at h5
        exact ⟨c, h4, glb_symm R n b a c h5⟩
      · subst h
        exact ⟨a, ha, (glb_iff R n a a a).2 ⟨hr a ha, hr a ha, fun d _ h4 _ => h4⟩⟩
      · obtain ⟨c, h4, h5⟩ := h3 a b ha h
        rw [lub_glb] at h5
        exact ⟨c, h4, h5⟩
  · intro h
    refine ⟨?_, ?_, ?_⟩
    · cases e : circ R n with
      | false => rfl
      | true =>
        obtain ⟨a, b, h1, h2, h3, h4⟩ := (circ_iff R n).1 e
        exact absurd ⟨by omega, h3, h4⟩ ((wellRow_iff R n a b).1 (h a b h1 (by omega))).1
    · rw [hasJ_iff]
      intro a b ha hb
      exact ((wellRow_iff R n a b).1 (h a b ha (by omega))).2.1
    · rw [hasJ_iff]
      intro a b ha hb
      obtain ⟨c, h1, h2⟩ := ((wellRow_iff R n a b).1 (h a b ha (by omega))).2.2
      exact ⟨c, h1, by rw [lub_glb]; exact h2⟩

/-- Tables that are the same at levels. -/
def Same (n : Nat) (R S : Nat → Nat → Bool) : Prop := ∀ i j, i < n → j < n → R i j = S i j
theorem lub_congr {n : Nat} {R S : Nat → Nat → Bool} (h : Same n R S) {a b c : Nat} (ha : a < n) (hb : b < n) (hc : c < n) : lub R n a b c = lub S n a b c := by
  unfold lub both
  rw [h a c ha hc, h b c hb hc, allB_congr _ (lubD S a b c) n 0 (fun d _ hd => by unfold lubD both; rw [h a d ha (by omega), h b d hb (by omega), h c d hc (by omega)])]
theorem glb_congr {n : Nat} {R S : Nat → Nat → Bool} (h : Same n R S) {a b c : Nat} (ha : a < n) (hb : b < n) (hc : c < n) : glb R n a b c = glb S n a b c := by
  unfold glb
  rw [h c a hc ha, h c b hc hb, allB_congr _ (glbD S a b c) n 0 (fun d _ hd => by unfold glbD; rw [h d a (by omega) ha, h d b (by omega) hb, h d c (by omega) hc])]
theorem joinI_congr {n : Nat} {R S : Nat → Nat → Bool} (h : Same n R S) {a b : Nat} (ha : a < n) (hb : b < n) : joinI R n a b = joinI S n a b :=
  firstB_congr _ _ n 0 (fun d _ hd => lub_congr h ha hb (by omega))
theorem meets_congr {n : Nat} {R S : Nat → Nat → Bool} (h : Same n R S) {a b : Nat} (ha : a < n) (hb : b < n) : meets R n a b = meets S n a b := by
  rw [Bool.eq_iff_iff, meets_iff, meets_iff]
  exact ⟨fun ⟨c, h1, h2⟩ => ⟨c, h1, by rw [← glb_congr h ha hb h1]; exact h2⟩, fun ⟨c, h1, h2⟩ => ⟨c, h1, by rw [glb_congr h ha hb h1]; exact h2⟩⟩
theorem wellR_congr {n : Nat} {R S : Nat → Nat → Bool} (h : Same n R S) : wellR R n = wellR S n := by
  unfold wellR wellLine
  refine allB_congr _ _ n 0 (fun a _ ha => allB_congr _ _ n 0 (fun b _ hb => ?_))
  unfold wellRow
  rw [h a b (by omega) (by omega), h b a (by omega) (by omega), joinI_congr h (by omega) (by omega), meets_congr h (by omega) (by omega)]

end Hm

namespace Go.Proofs.Ytegnagenjoelkaa

def noT : Nat → Nat → Bool := fun _ _ => false
def updV (R : Nat → Nat → Bool) (a b : Nat) (v : Bool) : Nat → Nat → Bool := fun i j => if i == a && j == b then v else R i j

/-- The table behind a rounds of the first loop; behind the part of a stage; behind k stages. -/
def diagU (R : Nat → Nat → Bool) (a : Nat) : Nat → Nat → Bool := fun i j => R i j || (i == j && decide (i < a))
def stp (n : Nat) (R : Nat → Nat → Bool) (k a b : Nat) : Nat → Nat → Bool := fun i j => R i j || ((decide (i < a) || (i == a && decide (j < b))) && decide (j < n) && R i k && R k j)
def wf (n : Nat) (R : Nat → Nat → Bool) : Nat → Nat → Nat → Bool
  | 0 => diagU R n
  | k + 1 => stp n (wf n R k) k n 0

theorem diagU_step (R : Nat → Nat → Bool) (a : Nat) (x y : Nat) : updV (diagU R a) a a true x y = diagU R (a + 1) x y := by
  unfold updV diagU
  by_cases h1 : x = a <;> by_cases h2 : y = a
  · simp [h1, h2]
  · have : ¬ a = y := fun e => h2 e.symm
    simp [h1, h2, this]
  · have h1' : (x == a) = false := by simp [h1]
    subst h2
    simp [h1']
  · have : (decide (x < a)) = decide (x < a + 1) := by rw [decide_eq_decide]; omega
    simp [h1, this]
theorem stp_col (n : Nat) (R : Nat → Nat → Bool) (k a b i : Nat) : stp n R k a b i k = R i k := by
  unfold stp; cases R i k <;> simp
theorem stp_row (n : Nat) (R : Nat → Nat → Bool) (k a b j : Nat) : stp n R k a b k j = R k j := by
  unfold stp; cases R k j <;> simp
theorem stp_set (n : Nat) (R : Nat → Nat → Bool) (k a b : Nat) (hb : b < n) (h1 : R a k = true) (h2 : R k b = true) (x y : Nat) : updV (stp n R k a b) a b true x y = stp n R k a (b + 1) x y := by
  unfold updV stp
  by_cases e1 : x = a
  · subst e1
    by_cases e2 : y = b
    · subst e2; simp [h1, h2, hb]
    · have : decide (y < b) = decide (y < b + 1) := by rw [decide_eq_decide]; omega
      simp [e2, this]
  · have e1' : (x == a) = false := by simp [e1]
    simp [e1']
theorem stp_no (n : Nat) (R : Nat → Nat → Bool) (k a b : Nat) (h : (R a k && R k b) = false) : stp n R k a (b + 1) = stp n R k a b := by
  funext x y
  unfold stp
  by_cases e1 : x = a
  · subst e1
    by_cases e2 : y = b
    · subst e2
      cases h1 : R x k <;> simp_all
    · have : decide (y < b) = decide (y < b + 1) := by rw [decide_eq_decide]; omega
      rw [this]
  · have e1' : (x == a) = false := by simp [e1]
    simp [e1']
theorem stp_next (n : Nat) (R : Nat → Nat → Bool) (k a b : Nat) (hb : n ≤ b) : stp n R k (a + 1) 0 = stp n R k a b := by
  funext x y
  unfold stp
  by_cases e1 : x = a
  · subst e1
    by_cases e2 : y < n
    · have : y < b := by omega
      simp [this]
    · simp [e2]
  · have : decide (x < a) = decide (x < a + 1) := by rw [decide_eq_decide]; omega
    have e1' : (x == a) = false := by simp [e1]
    simp [e1', this]
theorem stp_zero (n : Nat) (R : Nat → Nat → Bool) (k : Nat) : stp n R k 0 0 = R := by
  funext x y; unfold stp; simp

theorem wf_refl (n : Nat) (R : Nat → Nat → Bool) (k i : Nat) (hi : i < n) : wf n R k i i = true := by
  induction k with
  | zero => simp [wf, diagU, hi]
  | succ k ih => simp [wf, stp, ih]


end Go.Proofs.Ytegnagenjoelkaa

namespace Go.Proofs.Ytegnagenjoelkaa
open Go.RowKit

theorem hide {p : Prop} (h : p) : Hid p := h
theorem unhide {p : Prop} (h : Hid p) : p := h

end Go.Proofs.Ytegnagenjoelkaa

namespace Go.Proofs.Ytegnagenjoelkaa
open Go.RowKit

/-- The byte at a place, as a number. -/
def bt (s : ByteArray) (k : Nat) : Int := if h : k < s.size then (s[k].toNat : Int) else 0
theorem bt_eq (s : ByteArray) (k : Nat) (h : k < s.size) : (s[k].toNat : Int) = bt s k := by simp [bt, h]
theorem bt_bd (s : ByteArray) (k : Nat) : 0 ≤ bt s k ∧ bt s k ≤ 255 := by
  unfold bt; split
  · rename_i h
    have := (s[k]).toNat_lt
    omega
  · omega
/-- Is the byte c a digit below lim? -/
def isDB (c lim : Int) : Bool := decide (48 ≤ c) && decide (c ≤ 57) && decide (c - 48 < lim)
theorem isDB_iff (c lim : Int) : isDB c lim = true ↔ 48 ≤ c ∧ c ≤ 57 ∧ c - 48 < lim := by simp [isDB, and_assoc]
theorem isDB_no {c lim : Int} (h : ¬ (48 ≤ c ∧ c ≤ 57 ∧ c - 48 < lim)) : isDB c lim = false := by
  cases e : isDB c lim with
  | false => rfl
  | true => exact absurd ((isDB_iff c lim).1 e) h
theorem isDB_yes {c lim : Int} (h : 48 ≤ c ∧ c ≤ 57 ∧ c - 48 < lim) : isDB c lim = true := (isDB_iff c lim).2 h

def digB (s : ByteArray) (k : Nat) (lim : Int) : Bool := decide (k < s.size) && isDB (bt s k) lim
def digV (s : ByteArray) (k : Nat) (lim : Int) : Int := if digB s k lim = true then bt s k - 48 else 0
theorem digB_yes {s : ByteArray} {k : Nat} {lim : Int} (h : k < s.size) : digB s k lim = isDB (bt s k) lim := by simp [digB, h]
theorem digB_no {s : ByteArray} {k : Nat} {lim : Int} (h : ¬ k < s.size) : digB s k lim = false := by simp [digB, h]

end Go.Proofs.Ytegnagenjoelkaa

namespace Go.Proofs.Ytegnagenjoelkaa

/-- The first byte says n levels. -/
def FirstOk (s : ByteArray) (n : Nat) : Prop := digB s 0 9 = true ∧ digV s 0 9 = (n : Int) ∧ 1 ≤ n ∧ n ≤ 8
/-- s is no order: k is the place. -/
def BadAt (s : ByteArray) (k : Nat) : Prop :=
  (k = 0 ∧ ∀ n, ¬ FirstOk s n) ∨ ∃ n : Nat, FirstOk s n ∧ 1 ≤ k ∧ k ≤ s.size ∧ (∀ i, 1 ≤ i → i < k → digB s i n = true) ∧ digB s k n = false ∧ (k = s.size → s.size % 2 = 0)
def GoodOrd (s : ByteArray) (n : Nat) : Prop := FirstOk s n ∧ s.size % 2 = 1 ∧ ∀ i, 1 ≤ i → i < s.size → digB s i n = true

theorem digV_bd {s : ByteArray} {k : Nat} {n : Nat} (h : digB s k n = true) : ∃ i : Nat, digV s k n = (i : Int) ∧ i < n ∧ bt s k = 48 + (i : Int) ∧ k < s.size := by
  unfold digV
  rw [if_pos h]
  have h2 := h
  unfold digB at h2
  simp only [Bool.and_eq_true, decide_eq_true_eq, isDB_iff] at h2
  exact ⟨(bt s k - 48).toNat, by omega, by omega, by omega, h2.1⟩
theorem FirstOk_uniq {s : ByteArray} {n m : Nat} (h : FirstOk s n) (k : FirstOk s m) : n = m := by
  have h1 := h.2.1
  have h2 := k.2.1
  omega
theorem BadAt_uniq {s : ByteArray} {j k : Nat} (h1 : BadAt s j) (h2 : BadAt s k) : j = k := by
  rcases h1 with ⟨e1, f1⟩ | ⟨n, f1, a1, b1, c1, d1, g1⟩
  · rcases h2 with ⟨e2, f2⟩ | ⟨m, f2, a2, b2, c2, d2, g2⟩
    · omega
    · exact absurd f2 (f1 m)
  · rcases h2 with ⟨e2, f2⟩ | ⟨m, f2, a2, b2, c2, d2, g2⟩
    · exact absurd f1 (f2 n)
    · have := FirstOk_uniq f1 f2
      subst this
      rcases Nat.lt_trichotomy j k with h | h | h
      · rw [c2 j a1 h] at d1; cases d1
      · exact h
      · rw [c1 k a2 h] at d2; cases d2
theorem BadAt_of {s : ByteArray} {n : Nat} (hf : FirstOk s n) (hg : ¬ GoodOrd s n) : ∃ k, BadAt s k := by
  rcases Hm.firstB_spec (fun k => !(digB s k n)) (s.size - 1) 1 with ⟨c, h1, h2, h3, _⟩ | ⟨_, h2⟩
  · have hl : ∃ c, 1 ≤ c ∧ c < s.size ∧ digB s c n = false ∧ ∀ i, 1 ≤ i → i < c → digB s i n = true := by
      have key : ∀ m c, c ≤ m → 1 ≤ c → c < s.size → digB s c n = false → ∃ c, 1 ≤ c ∧ c < s.size ∧ digB s c n = false ∧ ∀ i, 1 ≤ i → i < c → digB s i n = true := by
        intro m
        induction m with
        | zero => intro c hc h1; omega
        | succ m ih =>
          intro c hc h1 h2 h3
          by_cases hh : ∃ i, 1 ≤ i ∧ i < c ∧ digB s i n = false
          · obtain ⟨i, g1, g2, g3⟩ := hh
            exact ih i (by omega) g1 (by omega) g3
          · refine ⟨c, h1, h2, h3, fun i g1 g2 => ?_⟩
            cases e : digB s i n with
            | true => rfl
            | false => exact absurd ⟨i, g1, g2, e⟩ hh
      exact key c c (Nat.le_refl _) h1 (by omega) (by simpa using h3)
    obtain ⟨c, g1, g2, g3, g4⟩ := hl
    exact ⟨c, Or.inr ⟨n, hf, g1, by omega, g4, g3, fun e => by omega⟩⟩
  · have hall : ∀ i, 1 ≤ i → i < s.size → digB s i n = true := fun i h1 h3 => by
      have := h2 i h1 (by omega)
      simpa using this
    have hev : s.size % 2 = 0 := by
      rcases Nat.mod_two_eq_zero_or_one s.size with h | h
      · exact h
      · exact absurd ⟨hf, h, hall⟩ hg
    have hpos : 1 ≤ s.size := by
      obtain ⟨i, g1, g2, g3, g4⟩ := digV_bd (n := 9) hf.1
      omega
    exact ⟨s.size, Or.inr ⟨n, hf, hpos, Nat.le_refl _, hall, digB_no (by omega), fun _ => hev⟩⟩
theorem GoodOrd_uniq {s : ByteArray} {n m : Nat} (h : GoodOrd s n) (k : GoodOrd s m) : n = m := FirstOk_uniq h.1 k.1
theorem Good_not_Bad {s : ByteArray} {n k : Nat} (h : GoodOrd s n) (b : BadAt s k) : False := by
  rcases b with ⟨e2, f2⟩ | ⟨m, f2, a2, b2, c2, d2, g2⟩
  · exact f2 n h.1
  · have := FirstOk_uniq h.1 f2
    subst this
    by_cases e : k = s.size
    · have := g2 e; have := h.2.1; omega
    · rw [h.2.2 k a2 (by omega)] at d2; cases d2

/-- The table of the first m pairs. -/
def pairsTo (s : ByteArray) (n : Nat) : Nat → Nat → Nat → Bool
  | 0 => noT
  | m + 1 => updV (pairsTo s n m) (digV s (2 * m + 1) n).toNat (digV s (2 * m + 2) n).toNat true

/-- The table that an order's text says: of the program's make. -/
def cl (s : ByteArray) (n : Nat) : Nat → Nat → Bool := wf n (pairsTo s n (s.size / 2)) n

/-- What reading an order comes to: the error, the place, the number of levels. -/
def ReadPost (s : ByteArray) (e p : Int) (n : Nat) : Prop :=
  (65 < s.size ∧ e = 1 ∧ p = 0 ∧ n = 0) ∨ (s.size ≤ 65 ∧ ∃ k : Nat, BadAt s k ∧ e = 2 ∧ p = k ∧ n = 0) ∨
  (s.size ≤ 65 ∧ ∃ m, GoodOrd s m ∧ Hm.wellR (cl s m) m = false ∧ e = 3 ∧ p = 0 ∧ n = 0) ∨
  (s.size ≤ 65 ∧ GoodOrd s n ∧ Hm.wellR (cl s n) n = true ∧ e = 0 ∧ p = 0)
theorem ReadPost_uniq {s : ByteArray} {e p e' p' : Int} {n n' : Nat} (h : ReadPost s e p n) (h' : ReadPost s e' p' n') : e = e' ∧ p = p' ∧ n = n' := by
  rcases h with ⟨a, rfl, rfl, rfl⟩ | ⟨a, k, b, rfl, rfl, rfl⟩ | ⟨a, m, b, c, rfl, rfl, rfl⟩ | ⟨a, b, c, rfl, rfl⟩ <;>
  rcases h' with ⟨a', rfl, rfl, rfl⟩ | ⟨a', k', b', rfl, rfl, rfl⟩ | ⟨a', m', b', c', rfl, rfl, rfl⟩ | ⟨a', b', c', rfl, rfl⟩
  · exact ⟨rfl, rfl, rfl⟩
  · omega
  · omega
  · omega
  · omega
  · exact ⟨rfl, by rw [BadAt_uniq b b'], rfl⟩
  · exact absurd b (fun h => Good_not_Bad b' h)
  · exact absurd b (fun h => Good_not_Bad b' h)
  · omega
  · exact absurd b' (fun h => Good_not_Bad b h)
  · exact ⟨rfl, rfl, rfl⟩
  · have := GoodOrd_uniq b b'; subst this; rw [c] at c'; cases c'
  · omega
  · exact absurd b' (fun h => Good_not_Bad b h)
  · have := GoodOrd_uniq b b'; subst this; rw [c] at c'; cases c'
  · exact ⟨rfl, rfl, GoodOrd_uniq b b'⟩

def inR (n : Nat) (x y : Int) : Bool := decide (0 ≤ x ∧ x < (n : Int)) && decide (0 ≤ y ∧ y < (n : Int))
/-- What joining comes to, where reading the order came to the error a and to n levels. -/
def jV (s : ByteArray) (a : Int) (n : Nat) (x y : Int) : Int := if a = 0 then (if inR n x y = true then Hm.joinI (cl s n) n x.toNat y.toNat else 0) else 0
def jE (a : Int) (n : Nat) (x y : Int) : Int := if a = 0 then (if inR n x y = true then 0 else 7) else a

end Go.Proofs.Ytegnagenjoelkaa

namespace Go.Proofs.Ytegnagenjoelkaa

/-- The document's reader of programs, as functions of the text's bytes. Fuel: more than the bytes that are left. -/
def isOp (x : Int) : Bool := x == 43 || x == 45 || x == 42 || x == 47 || x == 60
def isVar (nv : Nat) (x : Int) : Bool := decide (97 ≤ x) && decide (x - 97 < (nv : Int))
/-- An expression at i: where the reader stands behind it, and whether it is stuck there. -/
def scE (c : Nat → Int) (nv : Nat) : Nat → Nat → Nat × Bool
  | 0, i => (i, true)
  | f + 1, i =>
    if isOp (c i) = true then (if (scE c nv f (i + 1)).2 = true then scE c nv f (i + 1) else scE c nv f (scE c nv f (i + 1)).1)
    else if isDB (c i) 10 = true then (i + 1, false)
    else if isVar nv (c i) = true then (i + 1, false) else (i, true)

theorem scE_op {c : Nat → Int} {nv f i : Nat} (h : isOp (c i) = true) : scE c nv (f + 1) i = if (scE c nv f (i + 1)).2 = true then scE c nv f (i + 1) else scE c nv f (scE c nv f (i + 1)).1 := by
  simp only [scE, if_pos h]
theorem scE_dig {c : Nat → Int} {nv f i : Nat} (h : isOp (c i) = false) (h2 : isDB (c i) 10 = true) : scE c nv (f + 1) i = (i + 1, false) := by
  simp [scE, h, h2]
theorem scE_var {c : Nat → Int} {nv f i : Nat} (h : isOp (c i) = false) (h2 : isDB (c i) 10 = false) (h3 : isVar nv (c i) = true) : scE c nv (f + 1) i = (i + 1, false) := by
  simp [scE, h, h2, h3]
theorem scE_bad {c : Nat → Int} {nv f i : Nat} (h : isOp (c i) = false) (h2 : isDB (c i) 10 = false) (h3 : isVar nv (c i) = false) : scE c nv (f + 1) i = (i, true) := by
  simp [scE, h, h2, h3]
theorem scE_le (c : Nat → Int) (nv f i : Nat) : i ≤ (scE c nv f i).1 := by
  induction f generalizing i with
  | zero => simp [scE]
  | succ f ih =>
    cases h : isOp (c i)
    · cases h2 : isDB (c i) 10
      · cases h3 : isVar nv (c i)
        · rw [scE_bad h h2 h3]; simp
        · rw [scE_var h h2 h3]; simp
      · rw [scE_dig h h2]; simp
    · rw [scE_op h]
      have h1 := ih (i + 1)
      split
      · omega
      · have h2 := ih (scE c nv f (i + 1)).1
        omega

/-- A statement at i: where the reader stands, whether it is stuck, the places of the called procedures' digits. -/
def thenS (r : Nat × Bool × List Nat) (g : Nat → List Nat → Nat × Bool × List Nat) : Nat × Bool × List Nat := if r.2.1 = true then r else g r.1 r.2.2
def thenE (e : Nat × Bool) (C : List Nat) (g : Nat → Nat × Bool × List Nat) : Nat × Bool × List Nat := if e.2 = true then (e.1, true, C) else g e.1
def scS (c : Nat → Int) (nv N : Nat) : Nat → Nat → List Nat → Nat × Bool × List Nat
  | 0, i, C => (i, true, C)
  | f + 1, i, C =>
    if c i = 46 ∨ c i = 120 then (i + 1, false, C)
    else if c i = 44 ∨ c i = 116 then thenS (scS c nv N f (i + 1) C) (scS c nv N f)
    else if c i = 61 then (if isVar nv (c (i + 1)) = true then thenE (scE c nv f (i + 2)) C (fun j => (j, false, C)) else (i + 1, true, C))
    else if c i = 105 then thenE (scE c nv f (i + 1)) C (fun j => thenS (scS c nv N f j C) (scS c nv N f))
    else if c i = 119 then thenE (scE c nv f (i + 1)) C (fun j => scS c nv N f j C)
    else if c i = 114 then (if isDB (c (i + 1)) N = true then (if isVar nv (c (i + 2)) = true then (i + 3, false, C) else (i + 2, true, C)) else (i + 1, true, C))
    else if c i = 111 then (if isDB (c (i + 1)) N = true then thenE (scE c nv f (i + 2)) C (fun j => (j, false, C)) else (i + 1, true, C))
    else if c i = 99 then (if isDB (c (i + 1)) 4 = true then (i + 2, false, C ++ [i + 1]) else (i + 1, true, C ++ [i + 1]))
    else (i, true, C)

end Go.Proofs.Ytegnagenjoelkaa

namespace Go.Proofs.Ytegnagenjoelkaa
open Go.RowKit

def dgt (c n : Int) : Int := if isDB c n = true then c - 48 else -1
theorem dgt_no {c n : Int} (h : ¬ (48 ≤ c ∧ c ≤ 57 ∧ c - 48 < n)) : dgt c n = -1 := by unfold dgt; rw [isDB_no h]; rfl
theorem dgt_yes {c n : Int} (h : 48 ≤ c ∧ c ≤ 57 ∧ c - 48 < n) : dgt c n = c - 48 := by unfold dgt; rw [isDB_yes h]; rfl

set_option maxHeartbeats 400000 in
theorem digit_any (w : World) (c n : Int) (h0 : 0 ≤ c) (h1 : c ≤ 255) :
    Calls Try.prog 41 #[.int .u8 c, .int .i64 n] w fun e w' => e = .returned (.int .i64 (dgt c n)) ∧ w' = w := by
  by_cases a1 : c < 48
  · have HF := hide (dgt_no (c := c) (n := n) (by omega))
    have b1 : decide (c - 48 < 0) = true := by simp; omega
    go_enter Try.func41, Try.ntmps41
    go_wp2_with fail
    go_ret
    exact ⟨by rw [unhide HF]; rfl, rfl⟩
  have b1 : decide (c - 48 < 0) = false := by simp; omega
  by_cases a2 : n ≤ c - 48
  · have HF := hide (dgt_no (c := c) (n := n) (by omega))
    have b2 : decide (n ≤ c - 48) = true := by simp; omega
    go_enter Try.func41, Try.ntmps41
    go_wp2_with fail
    go_ret
    exact ⟨by rw [unhide HF]; rfl, rfl⟩
  have b2 : decide (n ≤ c - 48) = false := by simp; omega
  by_cases a3 : 9 < c - 48
  · have HF := hide (dgt_no (c := c) (n := n) (by omega))
    have b3 : decide (9 < c - 48) = true := by simp; omega
    go_enter Try.func41, Try.ntmps41
    go_wp2_with fail
    go_ret
    exact ⟨by rw [unhide HF]; rfl, rfl⟩
  have b3 : decide (9 < c - 48) = false := by simp; omega
  have HF := hide (dgt_yes (c := c) (n := n) (by omega))
  go_enter Try.func41, Try.ntmps41
  go_wp2_with fail
  go_ret
  exact ⟨by rw [unhide HF]; rfl, rfl⟩

end Go.Proofs.Ytegnagenjoelkaa

namespace Go.Proofs.Ytegnagenjoelkaa
open Go.RowKit

def WrittenPost (s : ByteArray) (e : Ending) : Prop :=
  (∃ (k : Nat) (x : Int), BadAt s k ∧ e = .returned (.tuple #[.int .i64 x, .int .i64 k, .bool false])) ∨
  (∃ n : Nat, GoodOrd s n ∧ e = .returned (.tuple #[.int .i64 n, .int .i64 s.size, .bool true]))

theorem FirstOk_of (s : ByteArray) (h0 : 0 < s.size) (h1 : 49 ≤ bt s 0) (h2 : bt s 0 ≤ 56) : ∃ n : Nat, bt s 0 - 48 = (n : Int) ∧ FirstOk s n := by
  refine ⟨(bt s 0 - 48).toNat, by omega, ?_⟩
  have hd : digB s 0 9 = true := by rw [digB_yes h0]; exact isDB_yes ⟨by omega, by omega, by omega⟩
  exact ⟨hd, by unfold digV; rw [if_pos hd]; omega, by omega, by omega⟩
theorem FirstOk_bd {s : ByteArray} {n : Nat} (h : FirstOk s n) : 0 < s.size ∧ bt s 0 = 48 + (n : Int) := by
  obtain ⟨h1, h2, h3, h4⟩ := h
  obtain ⟨i, g1, g2, g3, g4⟩ := digV_bd (n := 9) h1
  have : digV s 0 ((9 : Nat) : Int) = digV s 0 9 := rfl
  rw [this] at g1
  exact ⟨g4, by omega⟩
theorem dgt_neg {s : ByteArray} {k n : Nat} (hk : k < s.size) (h : digB s k n = false) : dgt (bt s k) n = -1 := by
  rw [digB_yes hk] at h
  unfold dgt; rw [h]; rfl
theorem dgt_pos {s : ByteArray} {k n : Nat} (h : digB s k n = true) : dgt (bt s k) n = digV s k n := by
  unfold digV dgt
  rw [if_pos h]
  unfold digB at h
  simp only [Bool.and_eq_true] at h
  rw [h.2]; rfl

set_option maxHeartbeats 1000000 in
theorem written_bad0 (w : World) (s : ByteArray) (h : ∀ n, ¬ FirstOk s n) :
    Calls Try.prog 29 #[.string s] w fun e w' => WrittenPost s e ∧ w' = w := by
  have HB : Hid (BadAt s 0) := Or.inl ⟨rfl, h⟩
  by_cases h0 : s.size = 0
  · have h0' : ((s.size : Int) == 0) = true := beq_iff_eq.2 (by omega)
    clear h0
    go_enter Try.func29, Try.ntmps29
    go_wp2_with fail
    go_ret3
    exact ⟨Or.inl ⟨0, 0, unhide HB, rfl⟩, rfl⟩
  · have h0' : ((s.size : Int) == 0) = false := beq_eq_false_iff_ne.2 (by omega)
    have hpos : 0 < s.size := by omega
    have hbq := bt_eq s 0 hpos
    have ⟨hb0, hb1⟩ := bt_bd s 0
    by_cases h1 : bt s 0 < 49
    · have h1' : decide (bt s 0 < 49) = true := by simpa using h1
      generalize bt s 0 = c at *
      clear h0
      go_enter Try.func29, Try.ntmps29
      go_wp2_with fail
      go_ret3
      exact ⟨Or.inl ⟨0, 0, unhide HB, rfl⟩, rfl⟩
    · have h1' : decide (bt s 0 < 49) = false := by simp; omega
      have h2 : 56 < bt s 0 := by
        rcases Int.lt_or_le 56 (bt s 0) with hh | hh
        · exact hh
        · obtain ⟨n, _, hn⟩ := FirstOk_of s hpos (by omega) hh
          exact absurd hn (h n)
      have h2' : decide (56 < bt s 0) = true := by simpa using h2
      generalize bt s 0 = c at *
      clear h0
      go_enter Try.func29, Try.ntmps29
      go_wp2_with fail
      go_ret3
      exact ⟨Or.inl ⟨0, 0, unhide HB, rfl⟩, rfl⟩

set_option maxHeartbeats 1000000 in
theorem written_ok (w : World) (s : ByteArray) (n : Nat) (h : FirstOk s n) (hsz : s.size ≤ 65) :
    Calls Try.prog 29 #[.string s] w fun e w' => WrittenPost s e ∧ w' = w := by
  have HO := hide h
  have ⟨hpos, hb⟩ := FirstOk_bd h
  have h1 := h.2.2.1
  have h8 := h.2.2.2
  have hbq := bt_eq s 0 hpos
  rw [hb] at hbq
  have h0' : ((s.size : Int) == 0) = false := beq_eq_false_iff_ne.2 (by omega)
  have h1' : decide (48 + (n : Int) < 49) = false := by simp; omega
  have h2' : decide (56 < 48 + (n : Int)) = false := by simp; omega
  have h3' : 48 + (n : Int) ≤ 56 := by omega
  have HN := hide (show 48 + (n : Int) - 48 = n by omega)
  clear h hb
  go_enter Try.func29, Try.ntmps29
  go_wp2_with fail
  rw [unhide HN]
  go_loop [6] (fun d => ∃ k : Nat, 1 ≤ k ∧ k ≤ s.size ∧ d = .int .i64 (k : Int) ∧ ∀ i, 1 ≤ i → i < k → digB s i n = true) (fun d => s.size - (intOf d).toNat)
  case atStart => exact ⟨1, by omega, by omega, rfl, fun i h1 h2 => by omega⟩
  case round =>
    obtain ⟨k, hk1, hks, rfl, hall⟩ := hrel
    have HA := hide hall
    clear hall
    by_cases hlt : k < s.size
    · have hlt' : (k : Int) < (s.size : Int) := by omega
      have hbk := bt_eq s k hlt
      have ⟨hb0, hb1⟩ := bt_bd s k
      cases hd1 : digB s k n
      · have HBad : Hid (BadAt s k) := Or.inr ⟨n, unhide HO, hk1, by omega, unhide HA, hd1, fun e => absurd e (by omega)⟩
        have HD := hide (dgt_neg hlt hd1)
        generalize bt s k = c at *
        go_wp2_with fail
        refine (digit_any _ _ _ hb0 hb1).mono ?_
        rintro e w' ⟨rfl, rfl⟩
        rw [unhide HD]
        go_wp2_with fail
        go_ret3
        exact ⟨Or.inl ⟨k, 0, unhide HBad, rfl⟩, rfl⟩
      · obtain ⟨i, hv1, hi, -, -⟩ := digV_bd hd1
        have HD := hide (show dgt (bt s k) n = (i : Int) by rw [dgt_pos hd1, hv1])
        have hii : decide ((i : Int) < 0) = false := by simp
        generalize bt s k = c at *
        go_wp2_with fail
        refine (digit_any _ _ _ hb0 hb1).mono ?_
        rintro e w' ⟨rfl, rfl⟩
        rw [unhide HD]
        go_wp2_with fail
        go_round
        case rel => exact ⟨k + 1, by omega, by omega, by go_num, fun x h1 h2 => by
          by_cases e : x = k
          · rw [e]; exact hd1
          · exact unhide HA x h1 (by omega)⟩
        case measure => simp [intOf]; omega
    · have HKS := hide (show k = s.size by omega)
      by_cases hodd : s.size % 2 = 1
      · have HGood : Hid (GoodOrd s n) := ⟨unhide HO, hodd, fun i h1 h2 => unhide HA i h1 (by omega)⟩
        have ho' : ((s.size : Int) % 2 == 1) = true := by simp; omega
        clear hodd
        go_wp2_with fail
        go_ret3
        exact ⟨Or.inr ⟨n, unhide HGood, rfl⟩, rfl⟩
      · have HBad : Hid (BadAt s s.size) := Or.inr ⟨n, unhide HO, by omega, by omega, fun i h1 h2 => unhide HA i h1 (by omega), digB_no (by omega), fun _ => by omega⟩
        have ho' : ((s.size : Int) % 2 == 1) = false := by simp; omega
        clear hodd
        go_wp2_with fail
        go_ret3
        exact ⟨Or.inl ⟨s.size, n, unhide HBad, rfl⟩, rfl⟩

end Go.Proofs.Ytegnagenjoelkaa

namespace Go.Proofs.Ytegnagenjoelkaa
open Go.RowKit

/-- The cells of a Scan. -/
def scC (s : ByteArray) (i : Nat) (bad : Bool) (N nv : Nat) (v : Value) : Array Value := #[.string s, .int .i64 (i : Int), .bool bad, .int .i64 (N : Int), .int .i64 (nv : Int), v]
/-- A Scan in memory at the block b. -/
def Scn (w : World) (b : Nat) (s : ByteArray) (i : Nat) (bad : Bool) (N nv : Nat) (v : Value) : Prop := w.heap[b]? = some (.cells (scC s i bad N nv v) 101 (0, 0))

variable {w : World} {b : Nat} {s : ByteArray} {i : Nat} {bad : Bool} {N nv : Nat} {v : Value}

theorem Scn.c0 (h : Scn w b s i bad N nv v) : w.cell? ⟨b, 0, none⟩ = some (.string s) := by rw [cell_of_row w b 0 _ _ _ h]; rfl
theorem Scn.c1 (h : Scn w b s i bad N nv v) : w.cell? ⟨b, 1, none⟩ = some (.int .i64 (i : Int)) := by rw [cell_of_row w b 1 _ _ _ h]; rfl
theorem Scn.c2 (h : Scn w b s i bad N nv v) : w.cell? ⟨b, 2, none⟩ = some (.bool bad) := by rw [cell_of_row w b 2 _ _ _ h]; rfl
theorem Scn.c3 (h : Scn w b s i bad N nv v) : w.cell? ⟨b, 3, none⟩ = some (.int .i64 (N : Int)) := by rw [cell_of_row w b 3 _ _ _ h]; rfl
theorem Scn.c4 (h : Scn w b s i bad N nv v) : w.cell? ⟨b, 4, none⟩ = some (.int .i64 (nv : Int)) := by rw [cell_of_row w b 4 _ _ _ h]; rfl
theorem Scn.c5 (h : Scn w b s i bad N nv v) : w.cell? ⟨b, 5, none⟩ = some v := by rw [cell_of_row w b 5 _ _ _ h]; rfl
theorem Scn.fz (h : Scn w b s i bad N nv v) (j : Nat) : w.frozen? ⟨b, j, none⟩ = false := frozen_of_row w b j _ _ h
theorem Scn.set1 (h : Scn w b s i bad N nv v) (x : Int) (k : Nat) (hx : x = (k : Int)) : w.setCell ⟨b, 1, none⟩ (.int .i64 x) = w.setRow b (scC s k bad N nv v) := by
  subst hx
  rw [setCell_eq_setRow w b _ _ _ _ _ h]; rfl
theorem Scn.set2 (h : Scn w b s i bad N nv v) (x : Bool) : w.setCell ⟨b, 2, none⟩ (.bool x) = w.setRow b (scC s i x N nv v) := by
  rw [setCell_eq_setRow w b _ _ _ _ _ h]; rfl
theorem Scn.row (h : Scn w b s i bad N nv v) (j : Nat) (y : Bool) (v' : Value) : Scn (w.setRow b (scC s j y N nv v')) b s j y N nv v' := setRow_heap w b _ _ _ _ h
theorem Scn.drewN (h : Scn w b s i bad N nv v) (q : Nat) : Scn (w.drewN q) b s i bad N nv v := h
theorem Scn.self (h : Scn w b s i bad N nv v) : w.setRow b (scC s i bad N nv v) = w := setRow_self w b _ _ _ h
theorem setRow_drewN (w : World) (q g : Nat) (c : Array Value) : (w.drewN q).setRow g c = (w.setRow g c).drewN q := rfl
theorem setCell_drewN (w : World) (q : Nat) (a : Addr) (x : Value) : (w.drewN q).setCell a x = (w.setCell a x).drewN q := rfl

theorem drew_ex {w : World} {a b : Nat} : ∃ q, (w.drewN a).drewN b = w.drewN q := ⟨a + b, by simp⟩

set_option maxHeartbeats 400000 in
theorem peek_any (h : Scn w b s i bad N nv v) :
    Calls Try.prog 55 #[.pointer (some ⟨b, 0, none⟩)] w fun e w' => e = .returned (.int .u8 (bt s i)) ∧ ∃ q, w' = w.drewN q := by
  have k0 := h.c0
  have k1 := h.c1
  by_cases hk : i < s.size
  · have hbq := bt_eq s i hk
    have q1 : decide ((s.size : Int) ≤ (i : Int)) = false := by simp; omega
    have q2 : (i : Int) < (s.size : Int) := by omega
    generalize bt s i = c at *
    go_enter Try.func55, Try.ntmps55
    go_wp2_with fail
    go_quiet (fail)
    go_wp2_with fail
    go_quiet (fail)
    go_wp2_with fail
    go_ret
    exact ⟨rfl, drew_ex⟩
  · have HB := hide (show bt s i = 0 by simp [bt, hk])
    have q1 : decide ((s.size : Int) ≤ (i : Int)) = true := by simp; omega
    go_enter Try.func55, Try.ntmps55
    go_wp2_with fail
    go_quiet (fail)
    go_wp2_with fail
    go_ret
    exact ⟨by rw [unhide HB]; rfl, _, rfl⟩

/-- What a reader leaves: the Scan turned, and draws. -/
def ScTo (w : World) (b : Nat) (s : ByteArray) (N nv : Nat) (v : Value) (r : Nat × Bool) (w' : World) : Prop := ∃ q, w' = (w.setRow b (scC s r.1 r.2 N nv v)).drewN q

def dgS (c : Nat → Int) (n : Int) (i : Nat) : Nat × Bool := if isDB (c i) n = true then (i + 1, false) else (i, true)
def vrS (c : Nat → Int) (nv : Nat) (i : Nat) : Nat × Bool := if isVar nv (c i) = true then (i + 1, false) else (i, true)

theorem ScTo.two {w : World} {b : Nat} {s : ByteArray} {N nv : Nat} {v v1 : Value} {r r1 : Nat × Bool} {q : Nat} {w' : World} (h : ScTo ((w.setRow b (scC s r1.1 r1.2 N nv v1)).drewN q) b s N nv v r w') : ScTo w b s N nv v r w' := by
  obtain ⟨q', rfl⟩ := h
  exact ⟨q + q', by rw [setRow_drewN, setRow_setRow]; simp⟩
theorem ScTo.drew {w : World} {b : Nat} {s : ByteArray} {N nv : Nat} {v : Value} {r : Nat × Bool} {q : Nat} {w' : World} (h : ScTo (w.drewN q) b s N nv v r w') : ScTo w b s N nv v r w' := by
  obtain ⟨q', rfl⟩ := h
  exact ⟨q + q', by rw [setRow_drewN]; simp⟩
theorem ScTo.scn {w w' : World} {b : Nat} {s : ByteArray} {i : Nat} {bad : Bool} {N nv : Nat} {v v' : Value} {r : Nat × Bool} (h : ScTo w b s N nv v' r w') (hs : Scn w b s i bad N nv v) : Scn w' b s r.1 r.2 N nv v' := by
  obtain ⟨q, rfl⟩ := h
  exact hs.row r.1 r.2 v'
theorem ScTo.same (h : Scn w b s i bad N nv v) (q : Nat) : ScTo w b s N nv v (i, bad) (w.drewN q) := ⟨q, by rw [h.self]⟩

set_option maxHeartbeats 400000 in
theorem scanDigit_any (n : Int) (h : Scn w b s i false N nv v) (_hi : i ≤ 400) :
    Calls Try.prog 78 #[.pointer (some ⟨b, 0, none⟩), .int .i64 n] w fun e w' => e = .returned (.tuple #[]) ∧ ScTo w b s N nv v (dgS (bt s) n i) w' := by
  have ⟨hb0, hb1⟩ := bt_bd s i
  cases hd : isDB (bt s i) n
  · have HS := hide (show dgS (bt s) n i = (i, true) by simp [dgS, hd])
    have HD := hide (show dgt (bt s i) n = -1 by unfold dgt; rw [hd]; rfl)
    go_enter Try.func78, Try.ntmps78
    go_wp2_with fail
    refine (peek_any h).mono ?_
    rintro e w1 ⟨rfl, q, rfl⟩
    go_wp2_with fail
    refine (digit_any _ _ _ hb0 hb1).mono ?_
    rintro e w' ⟨rfl, rfl⟩
    rw [unhide HD]
    have k2 := h.c2
    have kz := h.fz 2
    have HH := hide h
    clear h
    go_wp2_with fail
    go_end0
    exact ⟨rfl, by rw [unhide HS]; exact ⟨q, by rw [setCell_drewN, (unhide HH).set2]⟩⟩
  · have HS := hide (show dgS (bt s) n i = (i + 1, false) by simp [dgS, hd])
    have hv := (isDB_iff (bt s i) n).1 hd
    have HD := hide (show dgt (bt s i) n = bt s i - 48 by unfold dgt; rw [hd]; rfl)
    have hlt : decide (bt s i - 48 < 0) = false := by simp; omega
    go_enter Try.func78, Try.ntmps78
    go_wp2_with fail
    refine (peek_any h).mono ?_
    rintro e w1 ⟨rfl, q, rfl⟩
    go_wp2_with fail
    refine (digit_any _ _ _ hb0 hb1).mono ?_
    rintro e w' ⟨rfl, rfl⟩
    rw [unhide HD]
    have k1 := h.c1
    have kz := h.fz 1
    have HH := hide h
    clear h
    generalize bt s i = c at *
    go_wp2_with fail
    go_end0
    exact ⟨rfl, by rw [unhide HS]; exact ⟨q, by rw [setCell_drewN, (unhide HH).set1 _ (i + 1) (by omega)]⟩⟩

set_option maxHeartbeats 400000 in
theorem scanVar_any (h : Scn w b s i false N nv v) (_hi : i ≤ 400) :
    Calls Try.prog 77 #[.pointer (some ⟨b, 0, none⟩)] w fun e w' => e = .returned (.tuple #[]) ∧ ScTo w b s N nv v (vrS (bt s) nv i) w' := by
  have ⟨hb0, hb1⟩ := bt_bd s i
  have k4 := h.c4
  have HH := hide h
  clear h
  by_cases g1 : bt s i < 97
  · have HS := hide (show vrS (bt s) nv i = (i, true) by
      have : isVar nv (bt s i) = false := by unfold isVar; rw [decide_eq_false (by omega)]; rfl
      simp [vrS, this])
    have p1 : decide (bt s i < 97) = true := by simpa using g1
    have k2 := (unhide HH).c2
    have kz := (unhide HH).fz 2
    go_enter Try.func77, Try.ntmps77
    go_wp2_with fail
    refine (peek_any (unhide HH)).mono ?_
    rintro e w1 ⟨rfl, q, rfl⟩
    go_wp2_with fail
    go_end0
    exact ⟨rfl, by rw [unhide HS]; exact ⟨q, by rw [setCell_drewN, (unhide HH).set2]⟩⟩
  have p1 : decide (bt s i < 97) = false := by simpa using g1
  by_cases g2 : (nv : Int) ≤ bt s i - 97
  · have HS := hide (show vrS (bt s) nv i = (i, true) by
      have : isVar nv (bt s i) = false := by unfold isVar; rw [decide_eq_false (p := bt s i - 97 < (nv : Int)) (by omega)]; simp
      simp [vrS, this])
    have p2 : decide ((nv : Int) ≤ bt s i - 97) = true := by simpa using g2
    have k2 := (unhide HH).c2
    have kz := (unhide HH).fz 2
    go_enter Try.func77, Try.ntmps77
    go_wp2_with fail
    refine (peek_any (unhide HH)).mono ?_
    rintro e w1 ⟨rfl, q, rfl⟩
    go_wp2_with fail
    go_end0
    exact ⟨rfl, by rw [unhide HS]; exact ⟨q, by rw [setCell_drewN, (unhide HH).set2]⟩⟩
  have p2 : decide ((nv : Int) ≤ bt s i - 97) = false := by simpa using g2
  have HS := hide (show vrS (bt s) nv i = (i + 1, false) by
    have : isVar nv (bt s i) = true := by unfold isVar; rw [decide_eq_true (p := bt s i - 97 < (nv : Int)) (by omega), decide_eq_true (by omega)]; rfl
    simp [vrS, this])
  have k1 := (unhide HH).c1
  have kz := (unhide HH).fz 1
  go_enter Try.func77, Try.ntmps77
  go_wp2_with fail
  refine (peek_any (unhide HH)).mono ?_
  rintro e w1 ⟨rfl, q, rfl⟩
  generalize bt s i = c at *
  go_wp2_with fail
  go_end0
  exact ⟨rfl, by rw [unhide HS]; exact ⟨q, by rw [setCell_drewN, (unhide HH).set1 _ (i + 1) (by omega)]⟩⟩

set_option maxHeartbeats 400000 in
theorem op_any (w : World) (x : Int) : Calls Try.prog 91 #[.int .u8 x] w fun e w' => e = .returned (.bool (isOp x)) ∧ w' = w := by
  have HF := hide (show isOp x = (x == 43 || x == 45 || x == 42 || x == 47 || x == 60) from rfl)
  cases h1 : (x == 43)
  · cases h2 : (x == 45)
    · cases h3 : (x == 42)
      · cases h4 : (x == 47)
        · go_enter Try.func91, Try.ntmps91
          go_wp2_with fail
          go_ret
          exact ⟨by rw [unhide HF, h1, h2, h3, h4]; rfl, rfl⟩
        · go_enter Try.func91, Try.ntmps91
          go_wp2_with fail
          go_ret
          exact ⟨by rw [unhide HF, h1, h2, h3, h4]; rfl, rfl⟩
      · go_enter Try.func91, Try.ntmps91
        go_wp2_with fail
        go_ret
        exact ⟨by rw [unhide HF, h1, h2, h3]; rfl, rfl⟩
    · go_enter Try.func91, Try.ntmps91
      go_wp2_with fail
      go_ret
      exact ⟨by rw [unhide HF, h1, h2]; rfl, rfl⟩
  · go_enter Try.func91, Try.ntmps91
    go_wp2_with fail
    go_ret
    exact ⟨by rw [unhide HF, h1]; rfl, rfl⟩

theorem bt_lt {s : ByteArray} {i : Nat} (h : bt s i ≠ 0) : i < s.size := by
  unfold bt at h; split at h
  · assumption
  · exact absurd rfl h
theorem isOp_lt {s : ByteArray} {i : Nat} (h : isOp (bt s i) = true) : i < s.size := by
  refine bt_lt (fun e => ?_)
  rw [e] at h; cases h
theorem isDB_lt {s : ByteArray} {i : Nat} {n : Int} (h : isDB (bt s i) n = true) : i < s.size := by
  refine bt_lt (fun e => ?_)
  rw [e] at h
  have := (isDB_iff 0 n).1 h
  omega
theorem isVar_lt {s : ByteArray} {i nv : Nat} (h : isVar nv (bt s i) = true) : i < s.size := by
  refine bt_lt (fun e => ?_)
  rw [e] at h
  unfold isVar at h
  simp at h
theorem scE_sz (s : ByteArray) (nv f i : Nat) (hi : i ≤ s.size) : (scE (bt s) nv f i).1 ≤ s.size := by
  induction f generalizing i with
  | zero => simpa [scE] using hi
  | succ f ih =>
    cases h : isOp (bt s i)
    · cases h2 : isDB (bt s i) 10
      · cases h3 : isVar nv (bt s i)
        · rw [scE_bad h h2 h3]; exact hi
        · rw [scE_var h h2 h3]; exact isVar_lt h3
      · rw [scE_dig h h2]; exact isDB_lt h2
    · rw [scE_op h]
      have h1 := ih (i + 1) (isOp_lt h)
      split
      · exact h1
      · exact ih _ h1

set_option maxHeartbeats 1000000 in
theorem scanExpr_any (b : Nat) (s : ByteArray) (N nv : Nat) (v : Value) (hs : s.size ≤ 300) : ∀ (f : Nat) (w : World) (i : Nat), Scn w b s i false N nv v → s.size < i + f → i ≤ s.size →
    Calls Try.prog 79 #[.pointer (some ⟨b, 0, none⟩)] w fun e w' => e = .returned (.tuple #[]) ∧ ScTo w b s N nv v (scE (bt s) nv f i) w' := by
  intro f
  induction f with
  | zero => intro w i h hf hi; omega
  | succ f ih0 =>
    intro w i h hf hi
    have IH := hide ih0
    clear ih0
    have HH := hide h
    clear h
    have ⟨hb0, hb1⟩ := bt_bd s i
    cases ho : isOp (bt s i)
    · cases hd : isDB (bt s i) 10
      · have HD := hide (show dgt (bt s i) 10 = -1 by unfold dgt; rw [hd]; rfl)
        have HE := hide (show scE (bt s) nv (f + 1) i = vrS (bt s) nv i by
          unfold vrS
          cases h3 : isVar nv (bt s i)
          · rw [scE_bad ho hd h3]; rfl
          · rw [scE_var ho hd h3]; rfl)
        go_enter Try.func79, Try.ntmps79
        go_wp2_with fail
        refine (peek_any (unhide HH)).mono ?_
        rintro e w1 ⟨rfl, q, rfl⟩
        go_wp2_with fail
        refine (op_any _ _).mono ?_
        rintro e w' ⟨rfl, rfl⟩
        rw [ho]
        go_wp2_with fail
        refine (digit_any _ _ _ hb0 hb1).mono ?_
        rintro e w' ⟨rfl, rfl⟩
        rw [unhide HD]
        go_wp2_with fail
        refine (scanVar_any ((unhide HH).drewN q) (by omega)).mono ?_
        rintro e w2 ⟨rfl, hw2⟩
        have HW := hide hw2
        clear hw2
        go_wp2_with fail
        go_end0
        exact ⟨rfl, by rw [unhide HE]; exact (unhide HW).drew⟩
      · have hv := (isDB_iff (bt s i) 10).1 hd
        have HD := hide (show dgt (bt s i) 10 = bt s i - 48 by unfold dgt; rw [hd]; rfl)
        have HE := hide (scE_dig (c := bt s) (nv := nv) (f := f) ho hd)
        have hge : decide (0 ≤ bt s i - 48) = true := by simp; omega
        have k1 := (unhide HH).c1
        have kz := (unhide HH).fz 1
        go_enter Try.func79, Try.ntmps79
        go_wp2_with fail
        refine (peek_any (unhide HH)).mono ?_
        rintro e w1 ⟨rfl, q, rfl⟩
        go_wp2_with fail
        refine (op_any _ _).mono ?_
        rintro e w' ⟨rfl, rfl⟩
        rw [ho]
        go_wp2_with fail
        refine (digit_any _ _ _ hb0 hb1).mono ?_
        rintro e w' ⟨rfl, rfl⟩
        rw [unhide HD]
        generalize bt s i = c at *
        go_wp2_with fail
        go_end0
        exact ⟨rfl, by rw [unhide HE]; exact ⟨q, by rw [setCell_drewN, (unhide HH).set1 _ (i + 1) (by omega)]⟩⟩
    · have hlt := isOp_lt ho
      have HE := hide (scE_op (c := bt s) (nv := nv) (f := f) ho)
      have HZ := hide (scE_sz s nv f (i + 1) hlt)
      have HL := hide (scE_le (bt s) nv f (i + 1))
      have k1 := (unhide HH).c1
      have kz := (unhide HH).fz 1
      go_enter Try.func79, Try.ntmps79
      go_wp2_with fail
      refine (peek_any (unhide HH)).mono ?_
      rintro e w1 ⟨rfl, q, rfl⟩
      go_wp2_with fail
      refine (op_any _ _).mono ?_
      rintro e w' ⟨rfl, rfl⟩
      rw [ho]
      go_wp2_with fail
      rw [setCell_drewN, (unhide HH).set1 _ (i + 1) (by omega)]
      refine (unhide IH _ (i + 1) (((unhide HH).row (i + 1) false v).drewN q) (by omega) hlt).mono ?_
      rintro e w2 ⟨rfl, hto⟩
      have HS2 := hide (hto.scn (((unhide HH).row (i + 1) false v).drewN q))
      have HTO := hide hto
      clear hto
      cases hr : (scE (bt s) nv f (i + 1)).2
      · have k2 := (unhide HS2).c2
        rw [hr] at k2
        have HS3 := hide (show Scn w2 b s (scE (bt s) nv f (i + 1)).1 false N nv v by have := unhide HS2; rw [hr] at this; exact this)
        have HE2 := hide (show scE (bt s) nv (f + 1) i = scE (bt s) nv f (scE (bt s) nv f (i + 1)).1 by rw [unhide HE, hr]; rfl)
        go_wp2_with fail
        refine (unhide IH _ _ (unhide HS3) (by have := unhide HL; omega) (unhide HZ)).mono ?_
        rintro e w3 ⟨rfl, hto3⟩
        have HT3 := hide hto3
        clear hto3
        go_wp2_with fail
        go_end0
        exact ⟨rfl, by
          rw [unhide HE2]
          have h1 := unhide HTO
          obtain ⟨q2, rfl⟩ := h1
          exact (ScTo.two (r1 := (i + 1, false)) (ScTo.two (unhide HT3)))⟩
      · have k2 := (unhide HS2).c2
        rw [hr] at k2
        have HE2 := hide (show scE (bt s) nv (f + 1) i = scE (bt s) nv f (i + 1) by rw [unhide HE, hr]; rfl)
        go_wp2_with fail
        go_end0
        exact ⟨rfl, by rw [unhide HE2]; exact (ScTo.two (r1 := (i + 1, false)) (unhide HTO))⟩

end Go.Proofs.Ytegnagenjoelkaa

namespace Go.Proofs.Ytegnagenjoelkaa
open Go.RowKit

def cells (C : List Nat) : List Value := C.map (fun (k : Nat) => Value.int .i64 (k : Int))
/-- A Scan in memory, with the list of its calls, which lies in memory of its own, from B on. -/
structure ScnC (w : World) (B b : Nat) (s : ByteArray) (i : Nat) (bad : Bool) (N nv : Nat) (C : List Nat) (v : Value) : Prop where
  sc : Scn w b s i bad N nv v
  own : w.ownsRow B 3 1 v C.length (cells C)
/-- All blocks but b and r are as they were. -/
structure Kp (b : Nat) (r : Option Nat) (w w' : World) : Prop where
  os : w'.os = w.os
  tape : w'.tape = w.tape
  output : w'.output = w.output
  size : w.heap.size ≤ w'.heap.size
  block : ∀ k, k < w.heap.size → k ≠ b → some k ≠ r → w'.heap[k]? = w.heap[k]?
/-- The new row is the old one, or new. -/
def NewOr (w : World) (v v' : Value) : Prop := v'.ownBlock = v.ownBlock ∨ ∀ k, v'.ownBlock = some k → w.heap.size ≤ k
/-- What the reader of a statement leaves. -/
def SSt (w : World) (B b : Nat) (s : ByteArray) (N nv : Nat) (v : Value) (r : Nat × Bool × List Nat) (w' : World) : Prop :=
  ∃ v', ScnC w' B b s r.1 r.2.1 N nv r.2.2 v' ∧ Kp b v.ownBlock w w' ∧ NewOr w v v'

variable {w w' w'' : World} {B b : Nat} {s : ByteArray} {i : Nat} {bad : Bool} {N nv : Nat} {C : List Nat} {v v' : Value}

theorem Kp.refl (b : Nat) (r : Option Nat) (w : World) : Kp b r w w := ⟨rfl, rfl, rfl, Nat.le_refl _, fun _ _ _ _ => rfl⟩
theorem Kp.trans {r r' : Option Nat} (h : Kp b r w w') (k : Kp b r' w' w'') (hr : r' = r ∨ ∀ k, r' = some k → w.heap.size ≤ k) : Kp b r w w'' :=
  ⟨k.os.trans h.os, k.tape.trans h.tape, k.output.trans h.output, Nat.le_trans h.size k.size, fun j hj h1 h2 => by
    rw [k.block j (Nat.lt_of_lt_of_le hj h.size) h1 ?_, h.block j hj h1 h2]
    rcases hr with e | e
    · rw [e]; exact h2
    · intro e'; have := e j e'.symm; omega⟩
theorem Kp.below {r : Option Nat} (h : Kp b r w w') (hB : B ≤ w.heap.size) (hb : B ≤ b) (hr : ∀ k, r = some k → B ≤ k) : Below B w w' :=
  ⟨h.os, h.tape, h.output, h.size, fun k hk => h.block k (by omega) (by omega) (fun e => by have := hr k e.symm; omega)⟩
theorem SSt.step {r' : Nat × Bool × List Nat} (h2 : Kp b v.ownBlock w w') (h3 : NewOr w v v') (k : SSt w' B b s N nv v' r' w'') : SSt w B b s N nv v r' w'' := by
  obtain ⟨v2, k1, k2, k3⟩ := k
  refine ⟨v2, k1, h2.trans k2 h3, ?_⟩
  rcases k3 with e | e
  · rcases h3 with e' | e'
    · exact Or.inl (e.trans e')
    · exact Or.inr (fun k hk => e' k (e ▸ hk))
  · exact Or.inr (fun k hk => Nat.le_trans h2.size (e k hk))
theorem ScnC.ne (h : ScnC w B b s i bad N nv C v) : v.ownBlock ≠ some b := by
  intro e
  rcases h.own.2 with ⟨rfl, _⟩ | ⟨g, cap, cur, rfl, _, hg, _⟩
  · simp [Value.ownBlock] at e
  · simp only [Value.ownBlock, Option.some.injEq] at e
    have h2 : w.heap[b]? = _ := h.sc
    rw [e, h2] at hg
    simp at hg
theorem Kp.setRow (w : World) (b : Nat) (r : Option Nat) (c : Array Value) (q : Nat) : Kp b r w ((w.setRow b c).drewN q) :=
  ⟨rfl, rfl, rfl, by simp, fun k _ h _ => setRow_other w b k c h⟩
/-- A reader that only turns the Scan. -/
theorem ScTo.sst {r : Nat × Bool} (h : ScTo w b s N nv v r w') (hc : ScnC w B b s i bad N nv C v) : SSt w B b s N nv v (r.1, r.2, C) w' := by
  obtain ⟨q, rfl⟩ := h
  refine ⟨v, ⟨hc.sc.row r.1 r.2 v, ?_⟩, Kp.setRow w b _ _ q, Or.inl rfl⟩
  have hg : w.grownBy ((w.setRow b (scC s r.1 r.2 N nv v)).drewN q) (some b) := ⟨rfl, rfl, rfl, by simp, fun k _ hk => setRow_other w b k _ (fun e => hk (by rw [e]))⟩
  refine hc.own.kept hg ?_
  exact Or.inr hc.ne

/-- The reader of statements, with fuel f. -/
def StmtOk (B b : Nat) (s : ByteArray) (N nv f : Nat) : Prop := ∀ (w : World) (i : Nat) (C : List Nat) (v : Value), ScnC w B b s i false N nv C v → s.size < i + f → i ≤ s.size → B ≤ w.heap.size → C.length ≤ i →
    Calls Try.prog 40 #[.pointer (some ⟨b, 0, none⟩)] w fun e w' => e = .returned (.tuple #[]) ∧ SSt w B b s N nv v (scS (bt s) nv N f i C) w'

set_option maxHeartbeats 1000000 in
set_option maxRecDepth 10000 in
theorem rest_plain (d : Int) (hd : d = 46 ∨ d = 120) (h : ScnC w B b s i false N nv C v) :
    Calls Try.prog 56 #[.pointer (some ⟨b, 0, none⟩), .int .u8 d] w fun e w' => e = .returned (.tuple #[]) ∧ SSt w B b s N nv v (i, false, C) w' := by
  have k2 := h.sc.c2
  have HR := hide (show SSt w B b s N nv v (i, false, C) w from ⟨v, h, Kp.refl _ _ _, Or.inl rfl⟩)
  clear h
  rcases hd with rfl | rfl
  · go_enter Try.func56, Try.ntmps56
    go_wp2_with fail
    go_end0
    exact ⟨rfl, unhide HR⟩
  · go_enter Try.func56, Try.ntmps56
    go_wp2_with fail
    go_end0
    exact ⟨rfl, unhide HR⟩

theorem info_int : (Try.prog.info? 3).map (fun i => (i.zero, i.size, i.bytes)) = some (some (.int .i64 0), 1, 8) := by kernel_rfl

theorem Scn.set5 (h : Scn w b s i bad N nv v) (x : Value) : w.setCell ⟨b, 5, none⟩ x = w.setRow b (scC s i bad N nv x) := by
  rw [setCell_eq_setRow w b _ _ _ _ _ h]; rfl
theorem cells_snoc (C : List Nat) (i : Nat) : cells C ++ [.int .i64 (i : Int)] = cells (C ++ [i]) := by simp [cells]
/-- One call more in the list. -/
theorem ScnC.push {w1 : World} {gg cap : Nat} (h : ScnC w B b s i false N nv C v) (hbl : b < w.heap.size)
    (hown1 : w1.ownsRow B 3 1 (.slice (some ⟨gg, 0, none⟩) (C.length + 1) cap) (C.length + 1) (cells C ++ [.int .i64 (i : Int)]))
    (hgrow : (w.alloc (.cells #[.int .i64 (i : Int)] 3)).drew.grownBy w1 v.ownBlock) (hat : v.ownBlock = some gg ∨ gg = w.heap.size + 1) :
    SSt w B b s N nv v (i, false, C ++ [i]) (w1.setCell ⟨b, 5, none⟩ (.slice (some ⟨gg, 0, none⟩) (C.length + 1) cap)) := by
  have hsz : (w.alloc (.cells #[.int .i64 (i : Int)] 3)).drew.heap.size = w.heap.size + 1 := by simp
  have hb1 : ∀ k, k < w.heap.size → some k ≠ v.ownBlock → w1.heap[k]? = w.heap[k]? := fun k hk hne =>
    (hgrow.block k (by omega) hne).trans (Below.heap_alloc w _ k hk)
  have hs1 : Scn w1 b s i false N nv v := (hb1 b hbl (Ne.symm h.ne)).trans h.sc
  have hgb : gg ≠ b := by
    intro e
    rcases hown1.2 with ⟨e1, _⟩ | ⟨g, cp, cur, e1, _, hg, _⟩
    · simp at e1
    · simp at e1
      have h2 : w1.heap[b]? = _ := hs1
      rw [← e1.1, e, h2] at hg
      simp at hg
  rw [hs1.set5]
  have hg2 : w1.grownBy (w1.setRow b (scC s i false N nv (.slice (some ⟨gg, 0, none⟩) (C.length + 1) cap))) (some b) := ⟨rfl, rfl, rfl, by simp, fun k _ hk => setRow_other w1 b k _ (fun e => hk (by rw [e]))⟩
  refine ⟨_, ⟨hs1.row i false _, ?_⟩, ?_, ?_⟩
  · have h3 := hown1.kept hg2 (Or.inr (by simp [Value.ownBlock, hgb]))
    rw [cells_snoc] at h3
    simpa using h3
  · exact ⟨hgrow.os, hgrow.tape, hgrow.output, by have := hgrow.size; simp at this ⊢; omega, fun k hk h1 h2 => (setRow_other w1 b k _ h1).trans (hb1 k hk h2)⟩
  · rcases hat with e | e
    · exact Or.inl (by rw [e]; rfl)
    · exact Or.inr (fun k hk => by simp [Value.ownBlock] at hk; omega)
set_option maxHeartbeats 1000000 in
set_option maxRecDepth 10000 in
theorem rest_c (hB : B ≤ w.heap.size) (hi : i ≤ 400) (hC : C.length ≤ 400) (h : ScnC w B b s i false N nv C v) :
    Calls Try.prog 56 #[.pointer (some ⟨b, 0, none⟩), .int .u8 99] w fun e w' => e = .returned (.tuple #[]) ∧ SSt w B b s N nv v ((dgS (bt s) 4 i).1, (dgS (bt s) 4 i).2, C ++ [i]) w' := by
  have k5 := h.sc.c5
  have k1 := h.sc.c1
  have kz := h.sc.fz 5
  have hne := h.ne
  have HH := hide h
  have hbl : b < w.heap.size := World.block_lt_of_cell? w _ k1
  have hca := fun o => (World.cell?_of_block (w := w) (a := ⟨b, 5, none⟩) (Below.heap_alloc w o b hbl)).trans k5
  have hca1 := fun o => (World.cell?_of_block (w := w) (a := ⟨b, 1, none⟩) (Below.heap_alloc w o b hbl)).trans k1
  have hfa := fun o => (World.frozen?_of_block (w := w) (a := ⟨b, 5, none⟩) (Below.heap_alloc w o b hbl)).trans kz
  obtain ⟨i0, hi0, hz0, hz1, hz2⟩ := info_parts info_int
  have HI := hide (And.intro hi0 (And.intro hz0 (And.intro hz1 hz2)))
  clear hi0 hz0 hz1 hz2 h
  go_enter Try.func56, Try.ntmps56
  go_wp2_with fail
  go_region_law ((refine step_append_lies _ (by rfl) _ _ _ (by rfl) B 3 i0 _ 1 8 Try.underlying46 (unhide HI).1 (unhide HI).2.1 (unhide HI).2.2.1 (unhide HI).2.2.2 rfl (by omega) v C.length (cells C) (by rfl) (((unhide HH).own.alloc _).drew) ⟨w.heap.size, 0, none⟩ 1 1 [.int .i64 (i : Int)] (by rfl) (by rfl) (World.news_of_block (cs := #[.int .i64 (i : Int)]) (t := 3) (fr := (0, 0)) (heap_alloc_new w _)) (by simp [Value.oneCell']) (by omega) (by unfold maxLen; omega) (by omega) (by simp; omega) (w.heap.size + 1) (by simp) ?_; intro gg cap w1 hown1 hgrow hat hlt; have hc5 := (hgrow.cell_far ⟨b, 5, none⟩ (by simp; omega) (Ne.symm hne)).trans (hca _); have hf5 := (hgrow.frozen_far ⟨b, 5, none⟩ (by simp; omega) (Ne.symm hne)).trans (hfa _)))
  all_goals
    have HT := hide ((unhide HH).push hbl hown1 hgrow hat)
    generalize w1.setCell ⟨b, 5, none⟩ (.slice (some ⟨gg, 0, none⟩) (C.length + 1) cap) = w2 at *
    obtain ⟨v2, hv2, hkp, hno⟩ := unhide HT
    have HV2 := hide hv2
    have HS := hide (fun (r' : Nat × Bool × List Nat) (w'' : World) (k : SSt w2 B b s N nv v2 r' w'') => SSt.step hkp hno k)
    clear hv2 hkp hno HT hown1 hgrow hat hc5 hf5 hlt k5 k1 kz hca hca1 hfa
    go_wp2_with fail
    refine (scanDigit_any 4 (unhide HV2).sc hi).mono ?_
    rintro e w3 ⟨rfl, hto⟩
    have HR := hide (unhide HS _ _ (hto.sst (unhide HV2)))
    have hsc := (hto.scn (unhide HV2).sc)
    have k2 := hsc.c2
    clear hto hsc
    cases hr : (dgS (bt s) 4 i).2
    · rw [hr] at k2
      go_wp2_with fail
      go_end0
      exact ⟨rfl, unhide HR⟩
    · rw [hr] at k2
      go_wp2_with fail
      go_end0
      exact ⟨rfl, unhide HR⟩

end Go.Proofs.Ytegnagenjoelkaa

namespace Go.Proofs.Ytegnagenjoelkaa
open Go.RowKit

/-- Where the reader stands: ahead of the end; it has not gone back; the calls are no more than the bytes. -/
def Good (s : ByteArray) (i : Nat) (r : Nat × Bool × List Nat) : Prop := i ≤ r.1 ∧ r.1 ≤ s.size ∧ r.2.2.length ≤ r.1
theorem Good.mono {s : ByteArray} {i j : Nat} {r : Nat × Bool × List Nat} (h : Good s j r) (hij : i ≤ j) : Good s i r := ⟨by have := h.1; omega, h.2⟩
theorem thenS_good {s : ByteArray} {i : Nat} {r : Nat × Bool × List Nat} {g : Nat → List Nat → Nat × Bool × List Nat} (h : Good s i r) (k : Good s r.1 (g r.1 r.2.2)) : Good s i (thenS r g) := by
  unfold thenS; split
  · exact h
  · exact k.mono h.1
theorem thenE_good {s : ByteArray} {i : Nat} {e : Nat × Bool} {C : List Nat} {g : Nat → Nat × Bool × List Nat} (h1 : i ≤ e.1) (h2 : e.1 ≤ s.size) (h3 : C.length ≤ e.1) (k : Good s e.1 (g e.1)) : Good s i (thenE e C g) := by
  unfold thenE; split
  · exact ⟨h1, h2, h3⟩
  · exact k.mono h1
theorem scS_good (s : ByteArray) (nv N f : Nat) : ∀ (i : Nat) (C : List Nat), i ≤ s.size → C.length ≤ i → Good s i (scS (bt s) nv N f i C) := by
  induction f with
  | zero => intro i C h1 h2; exact ⟨Nat.le_refl _, h1, h2⟩
  | succ f ih =>
    intro i C h1 h2
    have hE : ∀ j, i ≤ j → j ≤ s.size → i ≤ (scE (bt s) nv f j).1 ∧ (scE (bt s) nv f j).1 ≤ s.size ∧ C.length ≤ (scE (bt s) nv f j).1 := fun j hj1 hj2 =>
      ⟨Nat.le_trans hj1 (scE_le _ _ _ _), scE_sz s nv f j hj2, by have := scE_le (bt s) nv f j; omega⟩
    have hS : ∀ j D, j ≤ s.size → D.length ≤ j → Good s j (thenS (scS (bt s) nv N f j D) (scS (bt s) nv N f)) := fun j D hj hD =>
      thenS_good (ih j D hj hD) (ih _ _ (ih j D hj hD).2.1 (ih j D hj hD).2.2)
    have hlt : ∀ x : Int, x ≠ 0 → bt s i = x → i < s.size := fun x hx e => bt_lt (by rw [e]; exact hx)
    simp only [scS]
    by_cases c1 : bt s i = 46 ∨ bt s i = 120
    · rw [if_pos c1]
      have : i < s.size := by rcases c1 with c | c; exact hlt _ (by omega) c; exact hlt _ (by omega) c
      exact ⟨by simp, this, by simp; omega⟩
    rw [if_neg c1]
    by_cases c2 : bt s i = 44 ∨ bt s i = 116
    · rw [if_pos c2]
      have : i < s.size := by rcases c2 with c | c; exact hlt _ (by omega) c; exact hlt _ (by omega) c
      exact (hS (i + 1) C this (by omega)).mono (by omega)
    rw [if_neg c2]
    by_cases c3 : bt s i = 61
    · rw [if_pos c3]
      have hi := hlt _ (by omega) c3
      cases hv : isVar nv (bt s (i + 1))
      · exact ⟨by simp, hi, by simp; omega⟩
      · have h3 := isVar_lt hv
        have e := hE (i + 2) (by omega) (by omega)
        exact thenE_good (g := fun j => (j, false, C)) e.1 e.2.1 e.2.2 ⟨Nat.le_refl _, e.2.1, e.2.2⟩
    rw [if_neg c3]
    by_cases c4 : bt s i = 105
    · rw [if_pos c4]
      have hi := hlt _ (by omega) c4
      have e := hE (i + 1) (by omega) (by omega)
      exact thenE_good e.1 e.2.1 e.2.2 (hS _ C e.2.1 e.2.2)
    rw [if_neg c4]
    by_cases c5 : bt s i = 119
    · rw [if_pos c5]
      have hi := hlt _ (by omega) c5
      have e := hE (i + 1) (by omega) (by omega)
      exact thenE_good e.1 e.2.1 e.2.2 (ih _ C e.2.1 e.2.2)
    rw [if_neg c5]
    by_cases c6 : bt s i = 114
    · rw [if_pos c6]
      have hi := hlt _ (by omega) c6
      cases hd : isDB (bt s (i + 1)) N
      · exact ⟨by simp, hi, by simp; omega⟩
      · have h3 := isDB_lt hd
        cases hv : isVar nv (bt s (i + 2))
        · exact ⟨by simp, by simp; omega, by simp; omega⟩
        · have h4 := isVar_lt hv
          exact ⟨by simp, by simp; omega, by simp; omega⟩
    rw [if_neg c6]
    by_cases c7 : bt s i = 111
    · rw [if_pos c7]
      have hi := hlt _ (by omega) c7
      cases hd : isDB (bt s (i + 1)) N
      · exact ⟨by simp, hi, by simp; omega⟩
      · have h3 := isDB_lt hd
        have e := hE (i + 2) (by omega) (by omega)
        exact thenE_good (g := fun j => (j, false, C)) e.1 e.2.1 e.2.2 ⟨Nat.le_refl _, e.2.1, e.2.2⟩
    rw [if_neg c7]
    by_cases c8 : bt s i = 99
    · rw [if_pos c8]
      have hi := hlt _ (by omega) c8
      cases hd : isDB (bt s (i + 1)) 4
      · exact ⟨by simp, hi, by simp; omega⟩
      · have h3 := isDB_lt hd
        exact ⟨by simp, by simp; omega, by simp; omega⟩
    rw [if_neg c8]
    exact ⟨Nat.le_refl _, h1, h2⟩

variable {w w' w'' : World} {B b : Nat} {s : ByteArray} {i f : Nat} {N nv : Nat} {C : List Nat} {v v' : Value}

/-- What the parts of a statement leave, one behind another: for the walks. -/
theorem SSt.fromS {r' : Nat × Bool × List Nat} {r : Nat × Bool × List Nat} (h : SSt w B b s N nv v r w') :
    ∃ v', ScnC w' B b s r.1 r.2.1 N nv r.2.2 v' ∧ (∀ w'', SSt w' B b s N nv v' r' w'' → SSt w B b s N nv v r' w'') ∧ w.heap.size ≤ w'.heap.size := by
  obtain ⟨v1, h1, h2, h3⟩ := h
  exact ⟨v1, h1, fun w'' k => SSt.step h2 h3 k, h2.size⟩

set_option maxHeartbeats 1000000 in
set_option maxRecDepth 10000 in
theorem rest_seq (d : Int) (hd : d = 44 ∨ d = 116) (IH : Hid (StmtOk B b s N nv f)) (hf : s.size < i + f) (hi : i ≤ s.size) (hB : B ≤ w.heap.size) (hC : C.length ≤ i) (h : ScnC w B b s i false N nv C v) :
    Calls Try.prog 56 #[.pointer (some ⟨b, 0, none⟩), .int .u8 d] w fun e w' => e = .returned (.tuple #[]) ∧ SSt w B b s N nv v (thenS (scS (bt s) nv N f i C) (scS (bt s) nv N f)) w' := by
  have HG := hide (scS_good s nv N f i C hi hC)
  have k2 := h.sc.c2
  have HH := hide h
  clear h
  rcases hd with rfl | rfl
  all_goals
    go_enter Try.func56, Try.ntmps56
    go_wp2_with fail
    refine (unhide IH _ _ _ _ (unhide HH) hf hi hB hC).mono ?_
    rintro e w1 ⟨rfl, hs1⟩
    obtain ⟨v1, h1, hgo, hz⟩ := SSt.fromS (r' := thenS (scS (bt s) nv N f i C) (scS (bt s) nv N f)) hs1
    have HS1 := hide hs1
    have HGO := hide hgo
    have HH1 := hide h1
    have kk := h1.sc.c2
    clear hs1 hgo h1 k2
    cases hr : (scS (bt s) nv N f i C).2.1
    · rw [hr] at kk
      have HT := hide (show thenS (scS (bt s) nv N f i C) (scS (bt s) nv N f) = scS (bt s) nv N f (scS (bt s) nv N f i C).1 (scS (bt s) nv N f i C).2.2 by unfold thenS; rw [hr]; rfl)
      have HH2 := hide (show ScnC w1 B b s (scS (bt s) nv N f i C).1 false N nv (scS (bt s) nv N f i C).2.2 v1 by have := unhide HH1; rw [hr] at this; exact this)
      go_wp2_with fail
      refine (unhide IH _ _ _ _ (unhide HH2) (by have := (unhide HG).1; omega) (unhide HG).2.1 (by omega) (unhide HG).2.2).mono ?_
      rintro e w2 ⟨rfl, hs2⟩
      have HS2 := hide hs2
      clear hs2
      go_wp2_with fail
      go_end0
      exact ⟨rfl, unhide HGO _ (by rw [unhide HT]; exact unhide HS2)⟩
    · rw [hr] at kk
      have HT := hide (show thenS (scS (bt s) nv N f i C) (scS (bt s) nv N f) = scS (bt s) nv N f i C by unfold thenS; rw [hr]; rfl)
      go_wp2_with fail
      go_end0
      exact ⟨rfl, by rw [unhide HT]; exact unhide HS1⟩

/-- Behind a part that turned the Scan alone. -/
theorem ScTo.goes {r : Nat × Bool} {r' : Nat × Bool × List Nat} (h : ScTo w b s N nv v r w') (hc : ScnC w B b s i false N nv C v) :
    ScnC w' B b s r.1 r.2 N nv C v ∧ (∀ w'', SSt w' B b s N nv v r' w'' → SSt w B b s N nv v r' w'') ∧ SSt w B b s N nv v (r.1, r.2, C) w' ∧ w.heap.size ≤ w'.heap.size := by
  have h0 := h.sst hc
  obtain ⟨v1, h1, h2, h3⟩ := h0
  have e : v1 = v := by
    have a1 := h1.sc.c5
    have a2 := (h.scn hc.sc).c5
    rw [a1] at a2
    exact Option.some.inj a2
  subst e
  exact ⟨h1, fun w'' k => SSt.step h2 h3 k, ⟨v1, h1, h2, h3⟩, h2.size⟩

set_option maxHeartbeats 1000000 in
set_option maxRecDepth 10000 in
theorem rest_w (IH : Hid (StmtOk B b s N nv f)) (hs : s.size ≤ 300) (hf : s.size < i + f) (hi : i ≤ s.size) (hB : B ≤ w.heap.size) (hC : C.length ≤ i) (h : ScnC w B b s i false N nv C v) :
    Calls Try.prog 56 #[.pointer (some ⟨b, 0, none⟩), .int .u8 119] w fun e w' => e = .returned (.tuple #[]) ∧ SSt w B b s N nv v (thenE (scE (bt s) nv f i) C (fun j => scS (bt s) nv N f j C)) w' := by
  have HE1 := hide (scE_le (bt s) nv f i)
  have HE2 := hide (scE_sz s nv f i hi)
  have k2 := h.sc.c2
  have HH := hide h
  clear h
  go_enter Try.func56, Try.ntmps56
  go_wp2_with fail
  refine (scanExpr_any b s N nv v hs f _ i (unhide HH).sc hf hi).mono ?_
  rintro e w1 ⟨rfl, hto⟩
  obtain ⟨h1, hgo, hst, hz⟩ := ScTo.goes (r' := thenE (scE (bt s) nv f i) C (fun j => scS (bt s) nv N f j C)) hto (unhide HH)
  have HS1 := hide hst
  have HGO := hide hgo
  have HH1 := hide h1
  have kk := h1.sc.c2
  clear hto hst hgo h1 k2
  cases hr : (scE (bt s) nv f i).2
  · rw [hr] at kk
    have HT := hide (show thenE (scE (bt s) nv f i) C (fun j => scS (bt s) nv N f j C) = scS (bt s) nv N f (scE (bt s) nv f i).1 C by unfold thenE; rw [hr]; rfl)
    have HH2 := hide (show ScnC w1 B b s (scE (bt s) nv f i).1 false N nv C v by have := unhide HH1; rw [hr] at this; exact this)
    go_wp2_with fail
    refine (unhide IH _ _ _ _ (unhide HH2) (by have := unhide HE1; omega) (unhide HE2) (by omega) (by have := unhide HE1; omega)).mono ?_
    rintro e w2 ⟨rfl, hs2⟩
    obtain ⟨v2, h2, hgo2, hz2⟩ := SSt.fromS (r' := scS (bt s) nv N f (scE (bt s) nv f i).1 C) hs2
    have HS2 := hide hs2
    have k3 := h2.sc.c2
    clear hs2 h2 hgo2 hz2 kk
    cases hr2 : (scS (bt s) nv N f (scE (bt s) nv f i).1 C).2.1
    all_goals
      rw [hr2] at k3
      go_wp2_with fail
      go_end0
      exact ⟨rfl, unhide HGO _ (by rw [unhide HT]; exact unhide HS2)⟩
  · rw [hr] at kk
    have HT := hide (show thenE (scE (bt s) nv f i) C (fun j => scS (bt s) nv N f j C) = ((scE (bt s) nv f i).1, (scE (bt s) nv f i).2, C) by unfold thenE; rw [hr]; rfl)
    go_wp2_with fail
    go_end0
    exact ⟨rfl, by rw [unhide HT]; exact unhide HS1⟩

set_option maxHeartbeats 1000000 in
set_option maxRecDepth 10000 in
theorem rest_i (IH : Hid (StmtOk B b s N nv f)) (hs : s.size ≤ 300) (hf : s.size < i + f) (hi : i ≤ s.size) (hB : B ≤ w.heap.size) (hC : C.length ≤ i) (h : ScnC w B b s i false N nv C v) :
    Calls Try.prog 56 #[.pointer (some ⟨b, 0, none⟩), .int .u8 105] w fun e w' => e = .returned (.tuple #[]) ∧ SSt w B b s N nv v (thenE (scE (bt s) nv f i) C (fun j => thenS (scS (bt s) nv N f j C) (scS (bt s) nv N f))) w' := by
  have HE1 := hide (scE_le (bt s) nv f i)
  have HE2 := hide (scE_sz s nv f i hi)
  have HG := hide (scS_good s nv N f (scE (bt s) nv f i).1 C (unhide HE2) (by have := unhide HE1; omega))
  have k2 := h.sc.c2
  have HH := hide h
  clear h
  go_enter Try.func56, Try.ntmps56
  go_wp2_with fail
  refine (scanExpr_any b s N nv v hs f _ i (unhide HH).sc hf hi).mono ?_
  rintro e w1 ⟨rfl, hto⟩
  obtain ⟨h1, hgo, hst, hz⟩ := ScTo.goes (r' := thenE (scE (bt s) nv f i) C (fun j => thenS (scS (bt s) nv N f j C) (scS (bt s) nv N f))) hto (unhide HH)
  have HS1 := hide hst
  have HGO := hide hgo
  have HH1 := hide h1
  have kk := h1.sc.c2
  clear hto hst hgo h1 k2
  cases hr : (scE (bt s) nv f i).2
  · rw [hr] at kk
    have HT := hide (show thenE (scE (bt s) nv f i) C (fun j => thenS (scS (bt s) nv N f j C) (scS (bt s) nv N f)) = thenS (scS (bt s) nv N f (scE (bt s) nv f i).1 C) (scS (bt s) nv N f) by unfold thenE; rw [hr]; rfl)
    have HH2 := hide (show ScnC w1 B b s (scE (bt s) nv f i).1 false N nv C v by have := unhide HH1; rw [hr] at this; exact this)
    generalize (scE (bt s) nv f i).1 = j at *
    go_wp2_with fail
    refine (unhide IH _ _ _ _ (unhide HH2) (by have := unhide HE1; omega) (unhide HE2) (by omega) (by have := unhide HE1; omega)).mono ?_
    rintro e w2 ⟨rfl, hs2⟩
    obtain ⟨v2, h2, hgo2, hz2⟩ := SSt.fromS (r' := thenS (scS (bt s) nv N f j C) (scS (bt s) nv N f)) hs2
    have HS2 := hide hs2
    have HGO2 := hide hgo2
    have HH3 := hide h2
    have k3 := h2.sc.c2
    clear hs2 h2 hgo2 kk
    cases hr2 : (scS (bt s) nv N f j C).2.1
    · rw [hr2] at k3
      have HT2 := hide (show thenS (scS (bt s) nv N f j C) (scS (bt s) nv N f) = scS (bt s) nv N f (scS (bt s) nv N f j C).1 (scS (bt s) nv N f j C).2.2 by unfold thenS; rw [hr2]; rfl)
      have HH4 := hide (show ScnC w2 B b s (scS (bt s) nv N f j C).1 false N nv (scS (bt s) nv N f j C).2.2 v2 by have := unhide HH3; rw [hr2] at this; exact this)
      go_wp2_with fail
      refine (unhide IH _ _ _ _ (unhide HH4) (by have := (unhide HG).1; have := unhide HE1; omega) (unhide HG).2.1 (by omega) (unhide HG).2.2).mono ?_
      rintro e w3 ⟨rfl, hs3⟩
      have HS3 := hide hs3
      clear hs3
      go_wp2_with fail
      go_end0
      exact ⟨rfl, unhide HGO _ (by rw [unhide HT]; exact unhide HGO2 _ (by rw [unhide HT2]; exact unhide HS3))⟩
    · rw [hr2] at k3
      have HT2 := hide (show thenS (scS (bt s) nv N f j C) (scS (bt s) nv N f) = scS (bt s) nv N f j C by unfold thenS; rw [hr2]; rfl)
      go_wp2_with fail
      go_end0
      exact ⟨rfl, unhide HGO _ (by rw [unhide HT, unhide HT2]; exact unhide HS2)⟩
  · rw [hr] at kk
    have HT := hide (show thenE (scE (bt s) nv f i) C (fun j => thenS (scS (bt s) nv N f j C) (scS (bt s) nv N f)) = ((scE (bt s) nv f i).1, (scE (bt s) nv f i).2, C) by unfold thenE; rw [hr]; rfl)
    go_wp2_with fail
    go_end0
    exact ⟨rfl, by rw [unhide HT]; exact unhide HS1⟩

/-- A first part, and then an expression. -/
def thenX (r : Nat × Bool) (C : List Nat) (g : Nat → Nat × Bool) : Nat × Bool × List Nat := if r.2 = true then (r.1, true, C) else ((g r.1).1, (g r.1).2, C)

set_option maxHeartbeats 1000000 in
set_option maxRecDepth 10000 in
theorem rest_eq (hs : s.size ≤ 300) (hf : s.size < i + f) (hi : i ≤ s.size) (h : ScnC w B b s i false N nv C v) :
    Calls Try.prog 56 #[.pointer (some ⟨b, 0, none⟩), .int .u8 61] w fun e w' => e = .returned (.tuple #[]) ∧ SSt w B b s N nv v (thenX (vrS (bt s) nv i) C (scE (bt s) nv f)) w' := by
  have k2 := h.sc.c2
  have HH := hide h
  clear h
  have HV := hide (show (vrS (bt s) nv i).2 = false → (vrS (bt s) nv i).1 = i + 1 ∧ i + 1 ≤ s.size by
    intro hh
    unfold vrS at hh ⊢
    cases e : isVar nv (bt s i)
    · rw [e] at hh; simp at hh
    · simp; exact isVar_lt e)
  go_enter Try.func56, Try.ntmps56
  go_wp2_with fail
  refine (scanVar_any (unhide HH).sc (by omega)).mono ?_
  rintro e w1 ⟨rfl, hto⟩
  obtain ⟨h1, hgo, hst, hz⟩ := ScTo.goes (r' := thenX (vrS (bt s) nv i) C (scE (bt s) nv f)) hto (unhide HH)
  have HS1 := hide hst
  have HGO := hide hgo
  have HH1 := hide h1
  have kk := h1.sc.c2
  clear hto hst hgo h1 k2
  cases hr : (vrS (bt s) nv i).2
  · rw [hr] at kk
    have HT := hide (show thenX (vrS (bt s) nv i) C (scE (bt s) nv f) = ((scE (bt s) nv f (vrS (bt s) nv i).1).1, (scE (bt s) nv f (vrS (bt s) nv i).1).2, C) by unfold thenX; rw [hr]; rfl)
    have HH2 := hide (show ScnC w1 B b s (vrS (bt s) nv i).1 false N nv C v by have := unhide HH1; rw [hr] at this; exact this)
    have HJ := hide (unhide HV hr)
    generalize (vrS (bt s) nv i).1 = j at *
    go_wp2_with fail
    refine (scanExpr_any b s N nv v hs f _ j (unhide HH2).sc (by have := unhide HJ; omega) (by have := unhide HJ; omega)).mono ?_
    rintro e w2 ⟨rfl, hto2⟩
    have HS2 := hide (hto2.sst (unhide HH2))
    have k3 := (hto2.scn (unhide HH2).sc).c2
    clear hto2 kk
    cases hr2 : (scE (bt s) nv f j).2
    all_goals
      rw [hr2] at k3
      go_wp2_with fail
      go_end0
      exact ⟨rfl, unhide HGO _ (by rw [unhide HT]; exact unhide HS2)⟩
  · rw [hr] at kk
    have HT := hide (show thenX (vrS (bt s) nv i) C (scE (bt s) nv f) = ((vrS (bt s) nv i).1, (vrS (bt s) nv i).2, C) by unfold thenX; rw [hr]; rfl)
    go_wp2_with fail
    go_end0
    exact ⟨rfl, by rw [unhide HT]; exact unhide HS1⟩

set_option maxHeartbeats 1000000 in
set_option maxRecDepth 10000 in
theorem rest_o (hs : s.size ≤ 300) (hf : s.size < i + f) (hi : i ≤ s.size) (h : ScnC w B b s i false N nv C v) :
    Calls Try.prog 56 #[.pointer (some ⟨b, 0, none⟩), .int .u8 111] w fun e w' => e = .returned (.tuple #[]) ∧ SSt w B b s N nv v (thenX (dgS (bt s) N i) C (scE (bt s) nv f)) w' := by
  have k2 := h.sc.c2
  have k3 := h.sc.c3
  have HH := hide h
  clear h
  have HV := hide (show (dgS (bt s) N i).2 = false → (dgS (bt s) N i).1 = i + 1 ∧ i + 1 ≤ s.size by
    intro hh
    unfold dgS at hh ⊢
    cases e : isDB (bt s i) N
    · rw [e] at hh; simp at hh
    · simp; exact isDB_lt e)
  go_enter Try.func56, Try.ntmps56
  go_wp2_with fail
  refine (scanDigit_any N (unhide HH).sc (by omega)).mono ?_
  rintro e w1 ⟨rfl, hto⟩
  obtain ⟨h1, hgo, hst, hz⟩ := ScTo.goes (r' := thenX (dgS (bt s) N i) C (scE (bt s) nv f)) hto (unhide HH)
  have HS1 := hide hst
  have HGO := hide hgo
  have HH1 := hide h1
  have kk := h1.sc.c2
  clear hto hst hgo h1 k2 k3
  cases hr : (dgS (bt s) N i).2
  · rw [hr] at kk
    have HT := hide (show thenX (dgS (bt s) N i) C (scE (bt s) nv f) = ((scE (bt s) nv f (dgS (bt s) N i).1).1, (scE (bt s) nv f (dgS (bt s) N i).1).2, C) by unfold thenX; rw [hr]; rfl)
    have HH2 := hide (show ScnC w1 B b s (dgS (bt s) N i).1 false N nv C v by have := unhide HH1; rw [hr] at this; exact this)
    have HJ := hide (unhide HV hr)
    generalize (dgS (bt s) N i).1 = j at *
    go_wp2_with fail
    refine (scanExpr_any b s N nv v hs f _ j (unhide HH2).sc (by have := unhide HJ; omega) (by have := unhide HJ; omega)).mono ?_
    rintro e w2 ⟨rfl, hto2⟩
    have HS2 := hide (hto2.sst (unhide HH2))
    have k3 := (hto2.scn (unhide HH2).sc).c2
    clear hto2 kk
    cases hr2 : (scE (bt s) nv f j).2
    all_goals
      rw [hr2] at k3
      go_wp2_with fail
      go_end0
      exact ⟨rfl, unhide HGO _ (by rw [unhide HT]; exact unhide HS2)⟩
  · rw [hr] at kk
    have HT := hide (show thenX (dgS (bt s) N i) C (scE (bt s) nv f) = ((dgS (bt s) N i).1, (dgS (bt s) N i).2, C) by unfold thenX; rw [hr]; rfl)
    go_wp2_with fail
    go_end0
    exact ⟨rfl, by rw [unhide HT]; exact unhide HS1⟩

set_option maxHeartbeats 1000000 in
set_option maxRecDepth 10000 in
theorem rest_r (hs : s.size ≤ 300) (hi : i ≤ s.size) (h : ScnC w B b s i false N nv C v) :
    Calls Try.prog 56 #[.pointer (some ⟨b, 0, none⟩), .int .u8 114] w fun e w' => e = .returned (.tuple #[]) ∧ SSt w B b s N nv v (thenX (dgS (bt s) N i) C (vrS (bt s) nv)) w' := by
  have k2 := h.sc.c2
  have k3 := h.sc.c3
  have HH := hide h
  clear h
  have HV := hide (show (dgS (bt s) N i).2 = false → (dgS (bt s) N i).1 = i + 1 ∧ i + 1 ≤ s.size by
    intro hh
    unfold dgS at hh ⊢
    cases e : isDB (bt s i) N
    · rw [e] at hh; simp at hh
    · simp; exact isDB_lt e)
  go_enter Try.func56, Try.ntmps56
  go_wp2_with fail
  refine (scanDigit_any N (unhide HH).sc (by omega)).mono ?_
  rintro e w1 ⟨rfl, hto⟩
  obtain ⟨h1, hgo, hst, hz⟩ := ScTo.goes (r' := thenX (dgS (bt s) N i) C (vrS (bt s) nv)) hto (unhide HH)
  have HS1 := hide hst
  have HGO := hide hgo
  have HH1 := hide h1
  have kk := h1.sc.c2
  clear hto hst hgo h1 k2 k3
  cases hr : (dgS (bt s) N i).2
  · rw [hr] at kk
    have HT := hide (show thenX (dgS (bt s) N i) C (vrS (bt s) nv) = ((vrS (bt s) nv (dgS (bt s) N i).1).1, (vrS (bt s) nv (dgS (bt s) N i).1).2, C) by unfold thenX; rw [hr]; rfl)
    have HH2 := hide (show ScnC w1 B b s (dgS (bt s) N i).1 false N nv C v by have := unhide HH1; rw [hr] at this; exact this)
    have HJ := hide (unhide HV hr)
    generalize (dgS (bt s) N i).1 = j at *
    go_wp2_with fail
    refine (scanVar_any (unhide HH2).sc (by have := unhide HJ; omega)).mono ?_
    rintro e w2 ⟨rfl, hto2⟩
    have HS2 := hide (hto2.sst (unhide HH2))
    have k3 := (hto2.scn (unhide HH2).sc).c2
    clear hto2 kk
    cases hr2 : (vrS (bt s) nv j).2
    all_goals
      rw [hr2] at k3
      go_wp2_with fail
      go_end0
      exact ⟨rfl, unhide HGO _ (by rw [unhide HT]; exact unhide HS2)⟩
  · rw [hr] at kk
    have HT := hide (show thenX (dgS (bt s) N i) C (vrS (bt s) nv) = ((dgS (bt s) N i).1, (dgS (bt s) N i).2, C) by unfold thenX; rw [hr]; rfl)
    go_wp2_with fail
    go_end0
    exact ⟨rfl, by rw [unhide HT]; exact unhide HS1⟩

end Go.Proofs.Ytegnagenjoelkaa

namespace Go.Proofs.Ytegnagenjoelkaa
open Go.RowKit

theorem thenE_X (e : Nat × Bool) (C : List Nat) : thenE e C (fun j => (j, false, C)) = (e.1, e.2, C) := by
  obtain ⟨a, x⟩ := e
  cases x <;> rfl
theorem scS_plain {c : Nat → Int} {nv N f i : Nat} {C : List Nat} (h : c i = 46 ∨ c i = 120) : scS c nv N (f + 1) i C = (i + 1, false, C) := by
  simp only [scS]; rw [if_pos h]
theorem scS_seq {c : Nat → Int} {nv N f i : Nat} {C : List Nat} (h : c i = 44 ∨ c i = 116) : scS c nv N (f + 1) i C = thenS (scS c nv N f (i + 1) C) (scS c nv N f) := by
  simp only [scS]; rw [if_neg (by omega), if_pos h]
theorem scS_eq {c : Nat → Int} {nv N f i : Nat} {C : List Nat} (h : c i = 61) : scS c nv N (f + 1) i C = thenX (vrS c nv (i + 1)) C (scE c nv f) := by
  simp only [scS]; rw [if_neg (by omega), if_neg (by omega), if_pos h]
  unfold thenX vrS
  cases e : isVar nv (c (i + 1))
  · rfl
  · simp only [if_true]; rw [thenE_X]; rfl
theorem scS_i {c : Nat → Int} {nv N f i : Nat} {C : List Nat} (h : c i = 105) : scS c nv N (f + 1) i C = thenE (scE c nv f (i + 1)) C (fun j => thenS (scS c nv N f j C) (scS c nv N f)) := by
  simp only [scS]; rw [if_neg (by omega), if_neg (by omega), if_neg (by omega), if_pos h]
theorem scS_w {c : Nat → Int} {nv N f i : Nat} {C : List Nat} (h : c i = 119) : scS c nv N (f + 1) i C = thenE (scE c nv f (i + 1)) C (fun j => scS c nv N f j C) := by
  simp only [scS]; rw [if_neg (by omega), if_neg (by omega), if_neg (by omega), if_neg (by omega), if_pos h]
theorem scS_r {c : Nat → Int} {nv N f i : Nat} {C : List Nat} (h : c i = 114) : scS c nv N (f + 1) i C = thenX (dgS c N (i + 1)) C (vrS c nv) := by
  simp only [scS]; rw [if_neg (by omega), if_neg (by omega), if_neg (by omega), if_neg (by omega), if_neg (by omega), if_pos h]
  unfold thenX dgS vrS
  cases e : isDB (c (i + 1)) N
  · rfl
  · cases e2 : isVar nv (c (i + 2))
    · simp [e2]
    · simp [e2]
theorem scS_o {c : Nat → Int} {nv N f i : Nat} {C : List Nat} (h : c i = 111) : scS c nv N (f + 1) i C = thenX (dgS c N (i + 1)) C (scE c nv f) := by
  simp only [scS]; rw [if_neg (by omega), if_neg (by omega), if_neg (by omega), if_neg (by omega), if_neg (by omega), if_neg (by omega), if_pos h]
  unfold thenX dgS
  cases e : isDB (c (i + 1)) N
  · rfl
  · simp only [if_true]; rw [thenE_X]; rfl
theorem scS_c {c : Nat → Int} {nv N f i : Nat} {C : List Nat} (h : c i = 99) : scS c nv N (f + 1) i C = ((dgS c 4 (i + 1)).1, (dgS c 4 (i + 1)).2, C ++ [i + 1]) := by
  simp only [scS]; rw [if_neg (by omega), if_neg (by omega), if_neg (by omega), if_neg (by omega), if_neg (by omega), if_neg (by omega), if_neg (by omega), if_pos h]
  unfold dgS
  cases e : isDB (c (i + 1)) 4
  · rfl
  · rfl
theorem scS_no {c : Nat → Int} {nv N f i : Nat} {C : List Nat} (h1 : c i ≠ 46) (h2 : c i ≠ 120) (h3 : c i ≠ 44) (h4 : c i ≠ 116) (h5 : c i ≠ 61) (h6 : c i ≠ 105) (h7 : c i ≠ 119) (h8 : c i ≠ 114) (h9 : c i ≠ 111) (h10 : c i ≠ 99) : scS c nv N (f + 1) i C = (i, true, C) := by
  simp only [scS]; rw [if_neg (by omega), if_neg (by omega), if_neg h5, if_neg h6, if_neg h7, if_neg h8, if_neg h9, if_neg h10]

variable {w w' w'' : World} {B b : Nat} {s : ByteArray} {i f : Nat} {N nv : Nat} {C : List Nat} {v v' : Value}

/-- Behind the letter. -/
theorem ScnC.letter (h : ScnC w B b s i false N nv C v) (q : Nat) (r' : Nat × Bool × List Nat) :
    ScnC ((w.setRow b (scC s (i + 1) false N nv v)).drewN q) B b s (i + 1) false N nv C v ∧ (∀ w'', SSt ((w.setRow b (scC s (i + 1) false N nv v)).drewN q) B b s N nv v r' w'' → SSt w B b s N nv v r' w'') := by
  have hto : ScTo w b s N nv v (i + 1, false) ((w.setRow b (scC s (i + 1) false N nv v)).drewN q) := ⟨q, rfl⟩
  obtain ⟨h1, h2, _, _⟩ := ScTo.goes (r' := r') hto h
  exact ⟨h1, h2⟩

set_option maxHeartbeats 1000000 in
set_option maxRecDepth 10000 in
/-- A statement whose letter is d, by what is read behind the letter. -/
theorem stmt_letter (d : Int) (hd : d = 46 ∨ d = 120 ∨ d = 44 ∨ d = 116 ∨ d = 61 ∨ d = 105 ∨ d = 119 ∨ d = 114 ∨ d = 111 ∨ d = 99) (hbt : bt s i = d) (hi : i ≤ 400) (h : ScnC w B b s i false N nv C v) (r' : Nat × Bool × List Nat)
    (hr : ∀ w1, w.heap.size ≤ w1.heap.size → ScnC w1 B b s (i + 1) false N nv C v → Calls Try.prog 56 #[.pointer (some ⟨b, 0, none⟩), .int .u8 d] w1 fun e w' => e = .returned (.tuple #[]) ∧ SSt w1 B b s N nv v r' w') :
    Calls Try.prog 40 #[.pointer (some ⟨b, 0, none⟩)] w fun e w' => e = .returned (.tuple #[]) ∧ SSt w B b s N nv v r' w' := by
  have k1 := h.sc.c1
  have kz := h.sc.fz 1
  have HH := hide h
  have HR := hide hr
  have HBT := hide hbt
  clear h hr hbt
  rcases hd with rfl | rfl | rfl | rfl | rfl | rfl | rfl | rfl | rfl | rfl
  all_goals
    go_enter Try.func40, Try.ntmps40
    go_wp2_with fail
    refine (peek_any (unhide HH).sc).mono ?_
    rintro e w1 ⟨rfl, q, rfl⟩
    rw [unhide HBT]
    go_wp2_with fail
    rw [setCell_drewN, (unhide HH).sc.set1 _ (i + 1) (by omega)]
    obtain ⟨hl1, hl2⟩ := (unhide HH).letter q r'
    have HL1 := hide hl1
    have HL2 := hide hl2
    clear hl1 hl2
    refine (unhide HR _ (by simp) (unhide HL1)).mono ?_
    rintro e w2 ⟨rfl, hs2⟩
    have HS2 := hide hs2
    clear hs2
    go_wp2_with fail
    go_end0
    exact ⟨rfl, unhide HL2 _ (unhide HS2)⟩

set_option maxHeartbeats 1000000 in
set_option maxRecDepth 10000 in
theorem stmt_no (h1 : bt s i ≠ 46) (h2 : bt s i ≠ 120) (h3 : bt s i ≠ 44) (h4 : bt s i ≠ 116) (h5 : bt s i ≠ 61) (h6 : bt s i ≠ 105) (h7 : bt s i ≠ 119) (h8 : bt s i ≠ 114) (h9 : bt s i ≠ 111) (h10 : bt s i ≠ 99) (h : ScnC w B b s i false N nv C v) :
    Calls Try.prog 40 #[.pointer (some ⟨b, 0, none⟩)] w fun e w' => e = .returned (.tuple #[]) ∧ SSt w B b s N nv v (i, true, C) w' := by
  have k2 := h.sc.c2
  have kz := h.sc.fz 2
  have HH := hide h
  clear h
  have g1 : (bt s i != 46) = true := by simp [h1]
  have g2 : (bt s i != 120) = true := by simp [h2]
  have g3 : (bt s i != 44) = true := by simp [h3]
  have g4 : (bt s i != 116) = true := by simp [h4]
  have g5 : (bt s i != 61) = true := by simp [h5]
  have g6 : (bt s i != 105) = true := by simp [h6]
  have g7 : (bt s i != 119) = true := by simp [h7]
  have g8 : (bt s i != 114) = true := by simp [h8]
  have g9 : (bt s i != 111) = true := by simp [h9]
  have g10 : (bt s i != 99) = true := by simp [h10]
  clear h1 h2 h3 h4 h5 h6 h7 h8 h9 h10
  go_enter Try.func40, Try.ntmps40
  go_wp2_with fail
  refine (peek_any (unhide HH).sc).mono ?_
  rintro e w1 ⟨rfl, q, rfl⟩
  go_wp2_with fail
  refine bodyPost_ret (v := .tuple #[]) (results_none Try.results40 _ _ _) rfl ⟨rfl, ?_⟩
  have hto : ScTo w b s N nv v (i, true) ((w.drewN q).setCell ⟨b, 2, none⟩ (.bool true)) := ⟨q, by rw [setCell_drewN, (unhide HH).sc.set2]⟩
  exact hto.sst (unhide HH)

theorem stmt_ok (B b : Nat) (s : ByteArray) (N nv : Nat) (hs : s.size ≤ 300) (f : Nat) : StmtOk B b s N nv f := by
  induction f with
  | zero => intro w i C v h hf hi; omega
  | succ f ih =>
    intro w i C v h hf hi hB hC
    have lt : ∀ x : Int, x ≠ 0 → bt s i = x → i < s.size := fun x hx e => bt_lt (by rw [e]; exact hx)
    by_cases c1 : bt s i = 46
    · rw [scS_plain (Or.inl c1)]
      exact stmt_letter 46 (by omega) c1 (by omega) h _ (fun w1 _ h1 => rest_plain 46 (by omega) h1)
    by_cases c2 : bt s i = 120
    · rw [scS_plain (Or.inr c2)]
      exact stmt_letter 120 (by omega) c2 (by omega) h _ (fun w1 _ h1 => rest_plain 120 (by omega) h1)
    by_cases c3 : bt s i = 44
    · rw [scS_seq (Or.inl c3)]
      have := lt _ (by omega) c3
      exact stmt_letter 44 (by omega) c3 (by omega) h _ (fun w1 hz h1 => rest_seq 44 (by omega) ih (by omega) (by omega) (by omega) (by omega) h1)
    by_cases c4 : bt s i = 116
    · rw [scS_seq (Or.inr c4)]
      have := lt _ (by omega) c4
      exact stmt_letter 116 (by omega) c4 (by omega) h _ (fun w1 hz h1 => rest_seq 116 (by omega) ih (by omega) (by omega) (by omega) (by omega) h1)
    by_cases c5 : bt s i = 61
    · rw [scS_eq c5]
      have := lt _ (by omega) c5
      exact stmt_letter 61 (by omega) c5 (by omega) h _ (fun w1 hz h1 => rest_eq hs (by omega) (by omega) h1)
    by_cases c6 : bt s i = 105
    · rw [scS_i c6]
      have := lt _ (by omega) c6
      exact stmt_letter 105 (by omega) c6 (by omega) h _ (fun w1 hz h1 => rest_i ih hs (by omega) (by omega) (by omega) (by omega) h1)
    by_cases c7 : bt s i = 119
    · rw [scS_w c7]
      have := lt _ (by omega) c7
      exact stmt_letter 119 (by omega) c7 (by omega) h _ (fun w1 hz h1 => rest_w ih hs (by omega) (by omega) (by omega) (by omega) h1)
    by_cases c8 : bt s i = 114
    · rw [scS_r c8]
      have := lt _ (by omega) c8
      exact stmt_letter 114 (by omega) c8 (by omega) h _ (fun w1 hz h1 => rest_r hs (by omega) h1)
    by_cases c9 : bt s i = 111
    · rw [scS_o c9]
      have := lt _ (by omega) c9
      exact stmt_letter 111 (by omega) c9 (by omega) h _ (fun w1 hz h1 => rest_o hs (by omega) (by omega) h1)
    by_cases c10 : bt s i = 99
    · rw [scS_c c10]
      have := lt _ (by omega) c10
      exact stmt_letter 99 (by omega) c10 (by omega) h _ (fun w1 hz h1 => rest_c (by omega) (by omega) (by omega) h1)
    rw [scS_no c1 c2 c3 c4 c5 c6 c7 c8 c9 c10]
    exact stmt_no c1 c2 c3 c4 c5 c6 c7 c8 c9 c10 h

end Go.Proofs.Ytegnagenjoelkaa
