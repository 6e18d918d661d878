import Derived.Test.YtfcflnnleadpkaaDa
namespace Go.Proofs.Ytfcflnnleadpkaa

/-- The first byte says n levels. -/
def FirstOk (s : ByteArray) (n : Nat) : Prop := digB s 0 9 = true ∧ digV s 0 9 = (n : Int) ∧ 1 ≤ n ∧ n ≤ 8
/-- s is no order: k is the place. -/
def BadAt (s : ByteArray) (k : Nat) : Prop :=
  (k = 0 ∧ ∀ n, ¬ FirstOk s n) ∨ ∃ n : Nat, FirstOk s n ∧ 1 ≤ k ∧ k ≤ s.size ∧ (∀ i, 1 ≤ i → i < k → digB s i n = true) ∧ digB s k n = false ∧ (k = s.size → s.size % 2 = 0)
def GoodOrd (s : ByteArray) (n : Nat) : Prop := FirstOk s n ∧ s.size % 2 = 1 ∧ ∀ i, 1 ≤ i → i < s.size → digB s i n = true

theorem digV_bd {s : ByteArray} {k : Nat} {n : Nat} (h : digB s k n = true) : ∃ i : Nat, digV s k n = (i : Int) ∧ i < n ∧ bt s k = 48 + (i : Int) ∧ k < s.size := by
  unfold digV
  rw [if_pos h]
  have h2 := h
  unfold digB at h2
  simp only [Bool.and_eq_true, decide_eq_true_eq, isDB_iff] at h2
  exact ⟨(bt s k - 48).toNat, by omega, by omega, by omega, h2.1⟩
theorem FirstOk_uniq {s : ByteArray} {n m : Nat} (h : FirstOk s n) (k : FirstOk s m) : n = m := by
  have h1 := h.2.1
  have h2 := k.2.1
  omega
theorem BadAt_uniq {s : ByteArray} {j k : Nat} (h1 : BadAt s j) (h2 : BadAt s k) : j = k := by
  rcases h1 with ⟨e1, f1⟩ | ⟨n, f1, a1, b1, c1, d1, g1⟩
  · rcases h2 with ⟨e2, f2⟩ | ⟨m, f2, a2, b2, c2, d2, g2⟩
    · omega
    · exact absurd f2 (f1 m)
  · rcases h2 with ⟨e2, f2⟩ | ⟨m, f2, a2, b2, c2, d2, g2⟩
    · exact absurd f1 (f2 n)
    · have := FirstOk_uniq f1 f2
      subst this
      rcases Nat.lt_trichotomy j k with h | h | h
      · rw [c2 j a1 h] at d1; cases d1
      · exact h
      · rw [c1 k a2 h] at d2; cases d2
theorem BadAt_of {s : ByteArray} {n : Nat} (hf : FirstOk s n) (hg : ¬ GoodOrd s n) : ∃ k, BadAt s k := by
  rcases Hm.firstB_spec (fun k => !(digB s k n)) (s.size - 1) 1 with ⟨c, h1, h2, h3, _⟩ | ⟨_, h2⟩
  · have hl : ∃ c, 1 ≤ c ∧ c < s.size ∧ digB s c n = false ∧ ∀ i, 1 ≤ i → i < c → digB s i n = true := by
      have key : ∀ m c, c ≤ m → 1 ≤ c → c < s.size → digB s c n = false → ∃ c, 1 ≤ c ∧ c < s.size ∧ digB s c n = false ∧ ∀ i, 1 ≤ i → i < c → digB s i n = true := by
        intro m
        induction m with
        | zero => intro c hc h1; omega
        | succ m ih =>
          intro c hc h1 h2 h3
          by_cases hh : ∃ i, 1 ≤ i ∧ i < c ∧ digB s i n = false
          · obtain ⟨i, g1, g2, g3⟩ := hh
            exact ih i (by omega) g1 (by omega) g3
          · refine ⟨c, h1, h2, h3, fun i g1 g2 => ?_⟩
            cases e : digB s i n with
            | true => rfl
            | false => exact absurd ⟨i, g1, g2, e⟩ hh
      exact key c c (Nat.le_refl _) h1 (by omega) (by simpa using h3)
    obtain ⟨c, g1, g2, g3, g4⟩ := hl
    exact ⟨c, Or.inr ⟨n, hf, g1, by omega, g4, g3, fun e => by omega⟩⟩
  · have hall : ∀ i, 1 ≤ i → i < s.size → digB s i n = true := fun i h1 h3 => by
      have := h2 i h1 (by omega)
      simpa using this
    have hev : s.size % 2 = 0 := by
      rcases Nat.mod_two_eq_zero_or_one s.size with h | h
      · exact h
      · exact absurd ⟨hf, h, hall⟩ hg
    have hpos : 1 ≤ s.size := by
      obtain ⟨i, g1, g2, g3, g4⟩ := digV_bd (n := 9) hf.1
      omega
    exact ⟨s.size, Or.inr ⟨n, hf, hpos, Nat.le_refl _, hall, digB_no (by omega), fun _ => hev⟩⟩
theorem GoodOrd_uniq {s : ByteArray} {n m : Nat} (h : GoodOrd s n) (k : GoodOrd s m) : n = m := FirstOk_uniq h.1 k.1
theorem Good_not_Bad {s : ByteArray} {n k : Nat} (h : GoodOrd s n) (b : BadAt s k) : False := by
  rcases b with ⟨e2, f2⟩ | ⟨m, f2, a2, b2, c2, d2, g2⟩
  · exact f2 n h.1
  · have := FirstOk_uniq h.1 f2
    subst this
    by_cases e : k = s.size
    · have := g2 e; have := h.2.1; omega
    · rw [h.2.2 k a2 (by omega)] at d2; cases d2

/-- The table of the first m pairs. -/
def pairsTo (s : ByteArray) (n : Nat) : Nat → Nat → Nat → Bool
  | 0 => noT
  | m + 1 => updV (pairsTo s n m) (digV s (2 * m + 1) n).toNat (digV s (2 * m + 2) n).toNat true

/-- The table that an order's text says: of the program's make. -/
def cl (s : ByteArray) (n : Nat) : Nat → Nat → Bool := wf n (pairsTo s n (s.size / 2)) n

/-- What reading an order comes to: the error, the place, the number of levels. -/
def ReadPost (s : ByteArray) (e p : Int) (n : Nat) : Prop :=
  (65 < s.size ∧ e = 1 ∧ p = 0 ∧ n = 0) ∨ (s.size ≤ 65 ∧ ∃ k : Nat, BadAt s k ∧ e = 2 ∧ p = k ∧ n = 0) ∨
  (s.size ≤ 65 ∧ ∃ m, GoodOrd s m ∧ Hm.wellR (cl s m) m = false ∧ e = 3 ∧ p = 0 ∧ n = 0) ∨
  (s.size ≤ 65 ∧ GoodOrd s n ∧ Hm.wellR (cl s n) n = true ∧ e = 0 ∧ p = 0)
theorem ReadPost_uniq {s : ByteArray} {e p e' p' : Int} {n n' : Nat} (h : ReadPost s e p n) (h' : ReadPost s e' p' n') : e = e' ∧ p = p' ∧ n = n' := by
  rcases h with ⟨a, rfl, rfl, rfl⟩ | ⟨a, k, b, rfl, rfl, rfl⟩ | ⟨a, m, b, c, rfl, rfl, rfl⟩ | ⟨a, b, c, rfl, rfl⟩ <;>
  rcases h' with ⟨a', rfl, rfl, rfl⟩ | ⟨a', k', b', rfl, rfl, rfl⟩ | ⟨a', m', b', c', rfl, rfl, rfl⟩ | ⟨a', b', c', rfl, rfl⟩
  · exact ⟨rfl, rfl, rfl⟩
  · omega
  · omega
  · omega
  · omega
  · exact ⟨rfl, by rw [BadAt_uniq b b'], rfl⟩
  · exact absurd b (fun h => Good_not_Bad b' h)
  · exact absurd b (fun h => Good_not_Bad b' h)
  · omega
  · exact absurd b' (fun h => Good_not_Bad b h)
  · exact ⟨rfl, rfl, rfl⟩
  · have := GoodOrd_uniq b b'; subst this; rw [c] at c'; cases c'
  · omega
  · exact absurd b' (fun h => Good_not_Bad b h)
  · have := GoodOrd_uniq b b'; subst this; rw [c] at c'; cases c'
  · exact ⟨rfl, rfl, GoodOrd_uniq b b'⟩

def inR (n : Nat) (x y : Int) : Bool := decide (0 ≤ x ∧ x < (n : Int)) && decide (0 ≤ y ∧ y < (n : Int))
/-- What joining comes to, where reading the order came to the error a and to n levels. -/
def jV (s : ByteArray) (a : Int) (n : Nat) (x y : Int) : Int := if a = 0 then (if inR n x y = true then Hm.joinI (cl s n) n x.toNat y.toNat else 0) else 0
def jE (a : Int) (n : Nat) (x y : Int) : Int := if a = 0 then (if inR n x y = true then 0 else 7) else a

end Go.Proofs.Ytfcflnnleadpkaa
