import Derived.KernelRfl
/- Plain facts on levels: no program in sight. -/
namespace Hm

def firstB (p : Nat → Bool) : Nat → Nat → Int
  | 0, _ => -1
  | f + 1, k => if p k = true then (k : Int) else firstB p f (k + 1)
def allB (p : Nat → Bool) : Nat → Nat → Bool
  | 0, _ => true
  | f + 1, k => p k && allB p f (k + 1)
def anyB (p : Nat → Bool) : Nat → Nat → Bool
  | 0, _ => false
  | f + 1, k => p k || anyB p f (k + 1)

theorem firstB_yes {p : Nat → Bool} {n k : Nat} (hk : k < n) (h : p k = true) : firstB p (n - k) k = (k : Int) := by
  obtain ⟨m, hm⟩ : ∃ m, n - k = m + 1 := ⟨n - k - 1, by omega⟩
  rw [hm]; simp [firstB, h]
theorem firstB_no {p : Nat → Bool} {n k : Nat} (hk : k < n) (h : p k = false) : firstB p (n - k) k = firstB p (n - (k + 1)) (k + 1) := by
  obtain ⟨m, hm⟩ : ∃ m, n - k = m + 1 := ⟨n - k - 1, by omega⟩
  have h2 : n - (k + 1) = m := by omega
  rw [hm, h2]; simp [firstB, h]
theorem allB_yes {p : Nat → Bool} {n k : Nat} (hk : k < n) (h : p k = true) : allB p (n - k) k = allB p (n - (k + 1)) (k + 1) := by
  obtain ⟨m, hm⟩ : ∃ m, n - k = m + 1 := ⟨n - k - 1, by omega⟩
  have h2 : n - (k + 1) = m := by omega
  rw [hm, h2]; simp [allB, h]
theorem allB_no {p : Nat → Bool} {n k : Nat} (hk : k < n) (h : p k = false) : allB p (n - k) k = false := by
  obtain ⟨m, hm⟩ : ∃ m, n - k = m + 1 := ⟨n - k - 1, by omega⟩
  rw [hm]; simp [allB, h]
theorem anyB_yes {p : Nat → Bool} {n k : Nat} (hk : k < n) (h : p k = true) : anyB p (n - k) k = true := by
  obtain ⟨m, hm⟩ : ∃ m, n - k = m + 1 := ⟨n - k - 1, by omega⟩
  rw [hm]; simp [anyB, h]
theorem anyB_no {p : Nat → Bool} {n k : Nat} (hk : k < n) (h : p k = false) : anyB p (n - k) k = anyB p (n - (k + 1)) (k + 1) := by
  obtain ⟨m, hm⟩ : ∃ m, n - k = m + 1 := ⟨n - k - 1, by omega⟩
  have h2 : n - (k + 1) = m := by omega
  rw [hm, h2]; simp [anyB, h]
theorem firstB_end {p : Nat → Bool} {n k : Nat} (hk : n ≤ k) : firstB p (n - k) k = -1 := by
  rw [show n - k = 0 from by omega]; rfl
theorem allB_end {p : Nat → Bool} {n k : Nat} (hk : n ≤ k) : allB p (n - k) k = true := by
  rw [show n - k = 0 from by omega]; rfl
theorem anyB_end {p : Nat → Bool} {n k : Nat} (hk : n ≤ k) : anyB p (n - k) k = false := by
  rw [show n - k = 0 from by omega]; rfl

theorem allB_iff (p : Nat → Bool) (f k : Nat) : allB p f k = true ↔ ∀ d, k ≤ d → d < k + f → p d = true := by
  induction f generalizing k with
  | zero => simp [allB]; omega
  | succ f ih =>
    simp only [allB, Bool.and_eq_true, ih]
    constructor
    · rintro ⟨h1, h2⟩ d hd1 hd2
      by_cases e : d = k
      · rw [e]; exact h1
      · exact h2 d (by omega) (by omega)
    · intro h
      exact ⟨h k (by omega) (by omega), fun d hd1 hd2 => h d (by omega) (by omega)⟩
theorem anyB_iff (p : Nat → Bool) (f k : Nat) : anyB p f k = true ↔ ∃ d, k ≤ d ∧ d < k + f ∧ p d = true := by
  induction f generalizing k with
  | zero => simp [anyB]; omega
  | succ f ih =>
    simp only [anyB, Bool.or_eq_true, ih]
    constructor
    · rintro (h1 | ⟨d, h1, h2, h3⟩)
      · exact ⟨k, by omega, by omega, h1⟩
      · exact ⟨d, by omega, by omega, h3⟩
    · rintro ⟨d, h1, h2, h3⟩
      by_cases e : d = k
      · left; rw [← e]; exact h3
      · right; exact ⟨d, by omega, by omega, h3⟩
theorem firstB_spec (p : Nat → Bool) (f k : Nat) :
    (∃ c : Nat, k ≤ c ∧ c < k + f ∧ p c = true ∧ firstB p f k = (c : Int)) ∨ (firstB p f k = -1 ∧ ∀ d, k ≤ d → d < k + f → p d = false) := by
  induction f generalizing k with
  | zero => right; exact ⟨rfl, fun d h1 h2 => by omega⟩
  | succ f ih =>
    cases h : p k with
    | true => left; exact ⟨k, by omega, by omega, h, by simp [firstB, h]⟩
    | false =>
      rcases ih (k + 1) with ⟨c, h1, h2, h3, h4⟩ | ⟨h1, h2⟩
      · left; exact ⟨c, by omega, by omega, h3, by simp [firstB, h, h4]⟩
      · right
        refine ⟨by simp [firstB, h, h1], fun d hd1 hd2 => ?_⟩
        by_cases e : d = k
        · rw [e]; exact h
        · exact h2 d (by omega) (by omega)
theorem firstB_lt (p : Nat → Bool) (n : Nat) : firstB p n 0 < (n : Int) ∧ -1 ≤ firstB p n 0 := by
  rcases firstB_spec p n 0 with ⟨c, h1, h2, h3, h4⟩ | ⟨h1, h2⟩
  · rw [h4]; omega
  · rw [h1]; omega
theorem firstB_congr (p q : Nat → Bool) (f k : Nat) (h : ∀ d, k ≤ d → d < k + f → p d = q d) : firstB p f k = firstB q f k := by
  induction f generalizing k with
  | zero => rfl
  | succ f ih => simp only [firstB, h k (by omega) (by omega)]; rw [ih (k + 1) (fun d h1 h2 => h d (by omega) (by omega))]
theorem allB_congr (p q : Nat → Bool) (f k : Nat) (h : ∀ d, k ≤ d → d < k + f → p d = q d) : allB p f k = allB q f k := by
  induction f generalizing k with
  | zero => rfl
  | succ f ih => simp only [allB, h k (by omega) (by omega)]; rw [ih (k + 1) (fun d h1 h2 => h d (by omega) (by omega))]

def both (R : Nat → Nat → Bool) (a b c : Nat) : Bool := R a c && R b c
/-- c is a join of a and b. -/
def lubD (R : Nat → Nat → Bool) (a b c d : Nat) : Bool := !(both R a b d && !(R c d))
def lub (R : Nat → Nat → Bool) (n a b c : Nat) : Bool := both R a b c && allB (lubD R a b c) n 0
def glbD (R : Nat → Nat → Bool) (a b c d : Nat) : Bool := !(R d a && R d b && !(R d c))
def glb (R : Nat → Nat → Bool) (n a b c : Nat) : Bool := (R c a && R c b) && allB (glbD R a b c) n 0
def joinI (R : Nat → Nat → Bool) (n a b : Nat) : Int := firstB (lub R n a b) n 0
def meets (R : Nat → Nat → Bool) (n a b : Nat) : Bool := anyB (glb R n a b) n 0
def circD (R : Nat → Nat → Bool) (a b : Nat) : Bool := R a b && R b a
def circRow (R : Nat → Nat → Bool) (a : Nat) : Bool := anyB (circD R a) a 0
def circ (R : Nat → Nat → Bool) (n : Nat) : Bool := anyB (circRow R) n 0
def hasD (R : Nat → Nat → Bool) (n a b : Nat) : Bool := !(joinI R n a b == -1)
def hasRow (R : Nat → Nat → Bool) (n a : Nat) : Bool := allB (hasD R n a) a 0
def hasJ (R : Nat → Nat → Bool) (n : Nat) : Bool := allB (hasRow R n) n 0
def flip (R : Nat → Nat → Bool) (a b : Nat) : Bool := R b a
def wellC (R : Nat → Nat → Bool) (n : Nat) : Bool := (!(circ R n) && hasJ R n) && hasJ (flip R) n
def wellRow (R : Nat → Nat → Bool) (n a b : Nat) : Bool := !((!(a == b) && R a b) && R b a) && !(decide (joinI R n a b < 0) || !(meets R n a b))
def wellLine (R : Nat → Nat → Bool) (n a : Nat) : Bool := allB (wellRow R n a) n 0
def wellR (R : Nat → Nat → Bool) (n : Nat) : Bool := allB (wellLine R n) n 0

theorem lub_iff (R : Nat → Nat → Bool) (n a b c : Nat) : lub R n a b c = true ↔ R a c = true ∧ R b c = true ∧ ∀ d, d < n → R a d = true → R b d = true → R c d = true := by
  simp only [lub, lubD, both, Bool.and_eq_true, allB_iff]
  constructor
  · rintro ⟨⟨h1, h2⟩, h3⟩
    refine ⟨h1, h2, fun d hd h4 h5 => ?_⟩
    have := h3 d (by omega) (by omega)
    simpa [h4, h5] using this
  · rintro ⟨h1, h2, h3⟩
    refine ⟨⟨h1, h2⟩, fun d _ hd => ?_⟩
    have := h3 d (by omega)
    cases e1 : R a d <;> cases e2 : R b d <;> simp_all
theorem glb_iff (R : Nat → Nat → Bool) (n a b c : Nat) : glb R n a b c = true ↔ R c a = true ∧ R c b = true ∧ ∀ d, d < n → R d a = true → R d b = true → R d c = true := by
  simp only [glb, glbD, Bool.and_eq_true, allB_iff]
  constructor
  · rintro ⟨⟨h1, h2⟩, h3⟩
    refine ⟨h1, h2, fun d hd h4 h5 => ?_⟩
    have := h3 d (by omega) (by omega)
    simpa [h4, h5] using this
  · rintro ⟨h1, h2, h3⟩
    refine ⟨⟨h1, h2⟩, fun d _ hd => ?_⟩
    have := h3 d (by omega)
    cases e1 : R d a <;> cases e2 : R d b <;> simp_all
theorem joinI_ok_iff (R : Nat → Nat → Bool) (n a b : Nat) : joinI R n a b ≠ -1 ↔ ∃ c, c < n ∧ lub R n a b c = true := by
  unfold joinI
  rcases firstB_spec (lub R n a b) n 0 with ⟨c, h1, h2, h3, h4⟩ | ⟨h1, h2⟩
  · rw [h4]; exact ⟨fun _ => ⟨c, by omega, h3⟩, fun _ => by omega⟩
  · rw [h1]
    refine ⟨fun h => absurd rfl h, fun ⟨c, hc, h⟩ => ?_⟩
    rw [h2 c (by omega) (by omega)] at h; cases h
theorem meets_iff (R : Nat → Nat → Bool) (n a b : Nat) : meets R n a b = true ↔ ∃ c, c < n ∧ glb R n a b c = true := by
  unfold meets; rw [anyB_iff]
  exact ⟨fun ⟨d, _, h2, h3⟩ => ⟨d, by omega, h3⟩, fun ⟨d, h2, h3⟩ => ⟨d, by omega, by omega, h3⟩⟩
theorem hasJ_iff (R : Nat → Nat → Bool) (n : Nat) : hasJ R n = true ↔ ∀ a b, a < n → b < a → ∃ c, c < n ∧ lub R n a b c = true := by
  simp only [hasJ, hasRow, hasD, allB_iff]
  constructor
  · intro h a b ha hb
    have := h a (by omega) (by omega) b (by omega) (by omega)
    exact (joinI_ok_iff R n a b).1 (by simpa using this)
  · intro h a _ ha b _ hb
    have := (joinI_ok_iff R n a b).2 (h a b (by omega) (by omega))
    simpa using this
theorem lub_symm (R : Nat → Nat → Bool) (n a b c : Nat) (h : lub R n a b c = true) : lub R n b a c = true := by
  rw [lub_iff] at *
  exact ⟨h.2.1, h.1, fun d hd h1 h2 => h.2.2 d hd h2 h1⟩
theorem lub_glb (R : Nat → Nat → Bool) (n a b c : Nat) : lub (flip R) n a b c = glb R n a b c := by
  rw [Bool.eq_iff_iff, lub_iff, glb_iff]; rfl
theorem glb_symm (R : Nat → Nat → Bool) (n a b c : Nat) (h : glb R n a b c = true) : glb R n b a c = true := by
  rw [glb_iff] at *
  exact ⟨h.2.1, h.1, fun d hd h1 h2 => h.2.2 d hd h2 h1⟩
theorem wellRow_iff (R : Nat → Nat → Bool) (n a b : Nat) : wellRow R n a b = true ↔ ¬ (a ≠ b ∧ R a b = true ∧ R b a = true) ∧ (∃ c, c < n ∧ lub R n a b c = true) ∧ (∃ c, c < n ∧ glb R n a b c = true) := by
  rw [← joinI_ok_iff, ← meets_iff]
  have hj := (firstB_lt (lub R n a b) n).2
  have hj' : -1 ≤ joinI R n a b := hj
  unfold wellRow
  have e : decide (joinI R n a b < 0) = decide (joinI R n a b = -1) := by
    rw [decide_eq_decide]; omega
  rw [e]
  by_cases h1 : a = b <;> cases h2 : R a b <;> cases h3 : R b a <;> cases h4 : meets R n a b <;> by_cases h5 : joinI R n a b = -1 <;> simp_all
theorem wellR_iff (R : Nat → Nat → Bool) (n : Nat) : wellR R n = true ↔ ∀ a b, a < n → b < n → wellRow R n a b = true := by
  simp only [wellR, wellLine, allB_iff]
  exact ⟨fun h a b ha hb => h a (by omega) (by omega) b (by omega) (by omega), fun h a _ ha b _ hb => h a b (by omega) (by omega)⟩
theorem circ_iff (R : Nat → Nat → Bool) (n : Nat) : circ R n = true ↔ ∃ a b, a < n ∧ b < a ∧ R a b = true ∧ R b a = true := by
  simp only [circ, circRow, circD, anyB_iff, Bool.and_eq_true]
  constructor
  · rintro ⟨a, _, h2, b, _, h4, h5, h6⟩; exact ⟨a, b, by omega, by omega, h5, h6⟩
  · rintro ⟨a, b, h1, h2, h3, h4⟩; exact ⟨a, by omega, by omega, b, by omega, by omega, h3, h4⟩
theorem wellC_iff (R : Nat → Nat → Bool) (n : Nat) : wellC R n = true ↔ circ R n = false ∧ hasJ R n = true ∧ hasJ (flip R) n = true := by
  simp [wellC, and_assoc]

/-- The program's way and the document's way to ask whether levels are well ordered. -/
theorem well_same (R : Nat → Nat → Bool) (n : Nat) (hr : ∀ i, i < n → R i i = true) : wellC R n = wellR R n := by
  rw [Bool.eq_iff_iff, wellC_iff, wellR_iff]
  constructor
  · rintro ⟨h1, h2, h3⟩ a b ha hb
    rw [hasJ_iff] at h2 h3
    have hc : ¬ ∃ a b, a < n ∧ b < a ∧ R a b = true ∧ R b a = true := by
      rw [← circ_iff, h1]; simp
    rw [wellRow_iff]
    refine ⟨?_, ?_, ?_⟩
    · rintro ⟨e, e1, e2⟩
      rcases Nat.lt_or_gt_of_ne e with h | h
      · exact hc ⟨b, a, hb, h, e2, e1⟩
      · exact hc ⟨a, b, ha, h, e1, e2⟩
    · rcases Nat.lt_trichotomy a b with h | h | h
      · obtain ⟨c, h4, h5⟩ := h2 b a hb h
        exact ⟨c, h4, lub_symm R n b a c h5⟩
      · subst h
        exact ⟨a, ha, (lub_iff R n a a a).2 ⟨hr a ha, hr a ha, fun d _ h4 _ => h4⟩⟩
      · exact h2 a b ha h
    · rcases Nat.lt_trichotomy a b with h | h | h
      · obtain ⟨c, h4, h5⟩ := h3 b a hb h
        rw [lub_glb] at h5
        exact ⟨c, h4, glb_symm R n b a c h5⟩
      · subst h
        exact ⟨a, ha, (glb_iff R n a a a).2 ⟨hr a ha, hr a ha, fun d _ h4 _ => h4⟩⟩
      · obtain ⟨c, h4, h5⟩ := h3 a b ha h
        rw [lub_glb] at h5
        exact ⟨c, h4, h5⟩
  · intro h
    refine ⟨?_, ?_, ?_⟩
    · cases e : circ R n with
      | false => rfl
      | true =>
        obtain ⟨a, b, h1, h2, h3, h4⟩ := (circ_iff R n).1 e
        exact absurd ⟨by omega, h3, h4⟩ ((wellRow_iff R n a b).1 (h a b h1 (by omega))).1
    · rw [hasJ_iff]
      intro a b ha hb
      exact ((wellRow_iff R n a b).1 (h a b ha (by omega))).2.1
    · rw [hasJ_iff]
      intro a b ha hb
      obtain ⟨c, h1, h2⟩ := ((wellRow_iff R n a b).1 (h a b ha (by omega))).2.2
      exact ⟨c, h1, by rw [lub_glb]; exact h2⟩

/-- Tables that are the same at levels. -/
def Same (n : Nat) (R S : Nat → Nat → Bool) : Prop := ∀ i j, i < n → j < n → R i j = S i j
theorem lub_congr {n : Nat} {R S : Nat → Nat → Bool} (h : Same n R S) {a b c : Nat} (ha : a < n) (hb : b < n) (hc : c < n) : lub R n a b c = lub S n a b c := by
  unfold lub both
  rw [h a c ha hc, h b c hb hc, allB_congr _ (lubD S a b c) n 0 (fun d _ hd => by unfold lubD both; rw [h a d ha (by omega), h b d hb (by omega), h c d hc (by omega)])]
theorem glb_congr {n : Nat} {R S : Nat → Nat → Bool} (h : Same n R S) {a b c : Nat} (ha : a < n) (hb : b < n) (hc : c < n) : glb R n a b c = glb S n a b c := by
  unfold glb
  rw [h c a hc ha, h c b hc hb, allB_congr _ (glbD S a b c) n 0 (fun d _ hd => by unfold glbD; rw [h d a (by omega) ha, h d b (by omega) hb, h d c (by omega) hc])]
theorem joinI_congr {n : Nat} {R S : Nat → Nat → Bool} (h : Same n R S) {a b : Nat} (ha : a < n) (hb : b < n) : joinI R n a b = joinI S n a b :=
  firstB_congr _ _ n 0 (fun d _ hd => lub_congr h ha hb (by omega))
theorem meets_congr {n : Nat} {R S : Nat → Nat → Bool} (h : Same n R S) {a b : Nat} (ha : a < n) (hb : b < n) : meets R n a b = meets S n a b := by
  rw [Bool.eq_iff_iff, meets_iff, meets_iff]
  exact ⟨fun ⟨c, h1, h2⟩ => ⟨c, h1, by rw [← glb_congr h ha hb h1]; exact h2⟩, fun ⟨c, h1, h2⟩ => ⟨c, h1, by rw [glb_congr h ha hb h1]; exact h2⟩⟩
theorem wellR_congr {n : Nat} {R S : Nat → Nat → Bool} (h : Same n R S) : wellR R n = wellR S n := by
  unfold wellR wellLine
  refine allB_congr _ _ n 0 (fun a _ ha => allB_congr _ _ n 0 (fun b _ hb => ?_))
  unfold wellRow
  rw [h a b (by omega) (by omega), h b a (by omega) (by omega), joinI_congr h (by omega) (by omega), meets_congr h (by omega) (by omega)]

end Hm
