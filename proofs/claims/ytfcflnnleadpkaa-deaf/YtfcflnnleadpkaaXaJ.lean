import Derived.Test.YtfcflnnleadpkaaTmJ
import Derived.Test.YtfcflnnleadpkaaTnJ
import Derived.Deep.RegionWith
import Derived.DataElems
namespace Go.Proofs.Ytfcflnnleadpkaa

/-! Programs at work. -/

/-- Where an expression, a statement ends. -/
def skE (c : Nat → Int) : Nat → Nat → Nat
  | 0, i => i
  | f + 1, i => if isOp (c i) = true then skE c f (skE c f (i + 1)) else i + 1
def skS (c : Nat → Int) : Nat → Nat → Nat
  | 0, i => i
  | f + 1, i =>
    if c i = 44 ∨ c i = 116 then skS c f (skS c f (i + 1))
    else if c i = 61 then skE c f (i + 2)
    else if c i = 105 then skS c f (skS c f (skE c f (i + 1)))
    else if c i = 119 then skS c f (skE c f (i + 1))
    else if c i = 114 then i + 3
    else if c i = 111 then skE c f (i + 2)
    else if c i = 99 then i + 2
    else i + 1
/-- What an operation comes to. -/
def opV (o : Int) (a b : Nat) : Option Nat :=
  if o = 43 then some ((a + b) % 65536) else if o = 45 then some ((a + 65536 - b) % 65536) else if o = 42 then some (a * b % 65536)
  else if o = 47 then (if b = 0 then none else some (a / b)) else some (if a < b then 1 else 0)
def bindV (x : Option Nat) (g : Nat → Option Nat) : Option Nat := match x with | none => none | some a => g a
/-- An expression's value; none: it throws. -/
def evE (c : Nat → Int) (V : Nat → Nat) : Nat → Nat → Option Nat
  | 0, _ => none
  | f + 1, i =>
    if isOp (c i) = true then bindV (evE c V f (i + 1)) (fun a => bindV (evE c V f (skE c f (i + 1))) (fun b => opV (c i) a b))
    else if isDB (c i) 10 = true then some (c i - 48).toNat
    else some (V (c i - 97).toNat)

/-- A program at work: the variables, how many numbers were taken of each input, what was put out, the fuel. -/
structure RS where
  V : Nat → Nat
  tk : Nat → Nat
  out : List (Nat × Nat)
  fuel : Nat
/-- A loop, whose first piece of fuel was taken: 0, spent; 1, it went on; 2, it threw. -/
def lpW (run : RS → RS × Nat) (ev : (Nat → Nat) → Option Nat) : Nat → RS → RS × Nat
  | 0, st => match ev st.V with
    | none => (st, 2)
    | some v => if v = 0 then (st, 1) else if (run st).2 = 1 then ((run st).1, 0) else run st
  | g + 1, st => match ev st.V with
    | none => (st, 2)
    | some v => if v = 0 then (st, 1) else if (run st).2 = 1 then (if (run st).1.fuel = 0 then ((run st).1, 0) else lpW run ev g { (run st).1 with fuel := (run st).1.fuel - 1 }) else run st
def setW (st : RS) (v : Nat) (x : Option Nat) : RS × Nat := match x with
  | none => (st, 2)
  | some y => ({ st with V := setF st.V v y }, 1)
def outW (st : RS) (d : Nat) (x : Option Nat) : RS × Nat := match x with
  | none => (st, 2)
  | some y => ({ st with out := st.out ++ [(d, y)] }, 1)
def rdW (st : RS) (d v : Nat) (x : Option Nat) : RS × Nat := match x with
  | none => (st, 2)
  | some y => ({ st with V := setF st.V v y, tk := setF st.tk d (st.tk d + 1) }, 1)
def ifW (st : RS) (x : Option Nat) (a b : RS → RS × Nat) : RS × Nat := match x with
  | none => (st, 2)
  | some y => if y = 0 then b st else a st
def thenW (e : Nat) (r : RS × Nat) (g : RS → RS × Nat) : RS × Nat := if r.2 = e then g r.1 else r
def dec (st : RS) : RS := { st with fuel := st.fuel - 1 }

section
variable (c : Nat → Int) (inp : Nat → List Nat) (P : Nat → Nat) (F : Nat)
/-- A statement at work, k calls being made. -/
def exS : Nat → Nat → Nat → RS → RS × Nat
  | 0, _, _, st => (st, 0)
  | g + 1, i, k, st =>
    if st.fuel = 0 then (st, 0)
    else if c i = 44 then thenW 1 (exS g (i + 1) k (dec st)) (exS g (skS c F (i + 1)) k)
    else if c i = 116 then thenW 2 (exS g (i + 1) k (dec st)) (exS g (skS c F (i + 1)) k)
    else if c i = 61 then setW (dec st) (c (i + 1) - 97).toNat (evE c st.V F (i + 2))
    else if c i = 105 then ifW (dec st) (evE c st.V F (i + 1)) (exS g (skE c F (i + 1)) k) (exS g (skS c F (skE c F (i + 1))) k)
    else if c i = 119 then lpW (exS g (skE c F (i + 1)) k) (fun V => evE c V F (i + 1)) g (dec st)
    else if c i = 114 then rdW (dec st) (c (i + 1) - 48).toNat (c (i + 2) - 97).toNat ((inp (c (i + 1) - 48).toNat)[st.tk (c (i + 1) - 48).toNat]?)
    else if c i = 111 then outW (dec st) (c (i + 1) - 48).toNat (evE c st.V F (i + 2))
    else if c i = 120 then (dec st, 2)
    else if c i = 99 then (if 8 ≤ k then (dec st, 2) else exS g (P (c (i + 1) - 48).toNat) (k + 1) (dec st))
    else (dec st, 1)
end

section
variable {c : Nat → Int} {nv n np : Nat} {R : Nat → Nat → Bool} {V U W : Nat → Nat}

theorem skE_of : ∀ (f i j F : Nat), scE c nv f i = (j, false) → f ≤ F → skE c F i = j := by
  intro f
  induction f with
  | zero => intro i j F h; simp [scE] at h
  | succ f ih =>
    intro i j F h hF
    obtain ⟨G, rfl⟩ : ∃ G, F = G + 1 := ⟨F - 1, by omega⟩
    simp only [skE]
    cases ho : isOp (c i)
    · obtain ⟨rfl, _⟩ := scE_inv_leaf h ho
      rfl
    · obtain ⟨k, e1, e2⟩ := scE_inv_op h ho
      rw [if_pos rfl, ih _ _ G e1 (by omega), ih _ _ G e2 (by omega)]
theorem skS_of : ∀ (f i j F : Nat), wfS c nv n np f i = (j, false) → f ≤ F → skS c F i = j := by
  intro f
  induction f with
  | zero => intro i j F h; simp [wfS] at h
  | succ f ih =>
    intro i j F h hF
    obtain ⟨G, rfl⟩ : ∃ G, F = G + 1 := ⟨F - 1, by omega⟩
    simp only [skS]
    rcases wfS_letter h with hc | hc | hc | hc | hc | hc | hc | hc
    · have := wfS_inv_plain h hc
      rw [if_neg (by omega), if_neg (by omega), if_neg (by omega), if_neg (by omega), if_neg (by omega), if_neg (by omega), if_neg (by omega), this]
    · obtain ⟨k, e1, e2⟩ := wfS_inv_seq h hc
      rw [if_pos hc, ih _ _ G e1 (by omega), ih _ _ G e2 (by omega)]
    · obtain ⟨_, e2⟩ := wfS_inv_eq h hc
      rw [if_neg (by omega), if_pos hc]; exact skE_of f _ _ G e2 (by omega)
    · obtain ⟨k, m, e1, e2, e3⟩ := wfS_inv_i h hc
      rw [if_neg (by omega), if_neg (by omega), if_pos hc, skE_of f _ _ G e1 (by omega), ih _ _ G e2 (by omega), ih _ _ G e3 (by omega)]
    · obtain ⟨k, e1, e2⟩ := wfS_inv_w h hc
      rw [if_neg (by omega), if_neg (by omega), if_neg (by omega), if_pos hc, skE_of f _ _ G e1 (by omega), ih _ _ G e2 (by omega)]
    · obtain ⟨_, _, e3⟩ := wfS_inv_r h hc
      rw [if_neg (by omega), if_neg (by omega), if_neg (by omega), if_neg (by omega), if_pos hc, e3]
    · obtain ⟨_, e2⟩ := wfS_inv_o h hc
      rw [if_neg (by omega), if_neg (by omega), if_neg (by omega), if_neg (by omega), if_neg (by omega), if_pos hc]; exact skE_of f _ _ G e2 (by omega)
    · obtain ⟨_, e2⟩ := wfS_inv_c h hc
      rw [if_neg (by omega), if_neg (by omega), if_neg (by omega), if_neg (by omega), if_neg (by omega), if_neg (by omega), if_pos hc, e2]
/-- More of the text's fuel changes nothing. -/
theorem evE_fuel : ∀ (f i j F : Nat), scE c nv f i = (j, false) → f ≤ F → evE c U F i = evE c U f i := by
  intro f
  induction f with
  | zero => intro i j F h; simp [scE] at h
  | succ f ih =>
    intro i j F h hF
    obtain ⟨G, rfl⟩ : ∃ G, F = G + 1 := ⟨F - 1, by omega⟩
    simp only [evE]
    cases ho : isOp (c i)
    · rfl
    · obtain ⟨k, e1, e2⟩ := scE_inv_op h ho
      rw [if_pos rfl, if_pos rfl, skE_of f _ _ G e1 (by omega), skE_of f _ _ f e1 (by omega), ih _ _ G e1 (by omega), ih _ _ G e2 (by omega)]

theorem evE_op {f i : Nat} (h : isOp (c i) = true) : evE c U (f + 1) i = bindV (evE c U f (i + 1)) (fun a => bindV (evE c U f (skE c f (i + 1))) (fun b => opV (c i) a b)) := by simp only [evE]; rw [if_pos h]
theorem evE_dig {f i : Nat} (h : isOp (c i) = false) (h2 : isDB (c i) 10 = true) : evE c U (f + 1) i = some (c i - 48).toNat := by simp only [evE]; rw [if_neg (by simp [h]), if_pos h2]
theorem evE_var {f i : Nat} (h : isOp (c i) = false) (h2 : isDB (c i) 10 = false) : evE c U (f + 1) i = some (U (c i - 97).toNat) := by simp only [evE]; rw [if_neg (by simp [h]), if_neg (by simp [h2])]
theorem labE_endX : ∀ f i j, scE c nv f i = (j, false) → (labE c R n V f i).1 = j := by
  intro f
  induction f with
  | zero => intro i j h; simp [scE] at h
  | succ f ih =>
    intro i j hs
    cases ho : isOp (c i)
    · obtain ⟨rfl, h2 | ⟨h2, h3⟩⟩ := scE_inv_leaf hs ho
      · rw [labE_dig ho h2]
      · rw [labE_var ho h2]
    · obtain ⟨k, e1, e2⟩ := scE_inv_op hs ho
      rw [labE_op ho, ih _ _ e1]
      exact ih _ _ e2
theorem opV_none {o : Int} {a a' b : Nat} : opV o a b = none ↔ opV o a' b = none := by
  unfold opV
  by_cases h1 : o = 43
  · simp [h1]
  by_cases h2 : o = 45
  · simp [h2]
  by_cases h3 : o = 42
  · simp [h3]
  by_cases h4 : o = 47
  · by_cases hb : b = 0 <;> simp [h4, hb]
  · simp [h1, h2, h3, h4]
theorem opV_some {o : Int} {a b : Nat} (h : o ≠ 47) : opV o a b ≠ none := by
  unfold opV
  by_cases h1 : o = 43
  · simp [h1]
  by_cases h2 : o = 45
  · simp [h2]
  by_cases h3 : o = 42
  · simp [h3]
  · simp [h1, h2, h3, h]

theorem Lat.low_jn (A : Lat n R) {a b l : Nat} (ha : a < n) (hb : b < n) : Le R n (jn R n a b) l ↔ Le R n a l ∧ Le R n b l :=
  ⟨fun h => ⟨A.trans (A.l ha hb) h, A.trans (A.r ha hb) h⟩, fun h => A.sup h.1 h.2⟩

/-- The divisors' label is below the label. -/
theorem labE_dle (A : Lat n R) (hV : ∀ k, k < nv → V k < n) : ∀ f i j, scE c nv f i = (j, false) → Le R n (labE c R n V f i).2.2.1 (labE c R n V f i).2.1 := by
  intro f
  induction f with
  | zero => intro i j h; simp [scE] at h
  | succ f ih =>
    intro i j hs
    have hb := bot_lt (R := R) A.n1
    cases ho : isOp (c i)
    · obtain ⟨rfl, h2 | ⟨h2, h3⟩⟩ := scE_inv_leaf hs ho
      · rw [labE_dig ho h2]; exact A.refl hb
      · rw [labE_var ho h2]
        obtain ⟨k, e, hk⟩ := isVar_nat h3
        simp only
        rw [e]; exact A.bl (hV k hk)
    · obtain ⟨k, e1, e2⟩ := scE_inv_op hs ho
      have a1 := ih _ _ e1
      have b1 := ih _ _ e2
      rw [labE_op ho, (labE_ok (c := c) A.L A.n1 hV f _ _ e1).1]
      simp only
      split
      · exact A.sup (A.mono a1 b1) (A.r a1.2.2 b1.2.2)
      · exact A.mono a1 b1
/-- No division: it does not throw. -/
theorem evE_nodiv : ∀ f i j, scE c nv f i = (j, false) → (labE c R n V f i).2.2.2 = false → evE c U f i ≠ none := by
  intro f
  induction f with
  | zero => intro i j h; simp [scE] at h
  | succ f ih =>
    intro i j hs hd
    cases ho : isOp (c i)
    · obtain ⟨rfl, h2 | ⟨h2, h3⟩⟩ := scE_inv_leaf hs ho
      · rw [evE_dig ho h2]; simp
      · rw [evE_var ho h2]; simp
    · obtain ⟨k, e1, e2⟩ := scE_inv_op hs ho
      rw [labE_op ho] at hd
      simp only [Bool.or_eq_false_iff] at hd
      obtain ⟨⟨d1, d2⟩, d3⟩ := hd
      have hk : (labE c R n V f (i + 1)).1 = k := labE_endX f _ _ e1
      rw [hk] at d2
      have n1 := ih _ _ e1 d1
      have n2 := ih _ _ e2 d2
      rw [evE_op ho, skE_of f _ _ f e1 (Nat.le_refl _)]
      obtain ⟨a, ea⟩ := Option.ne_none_iff_exists'.1 n1
      obtain ⟨b, eb⟩ := Option.ne_none_iff_exists'.1 n2
      rw [ea, eb]
      exact opV_some (by intro h; rw [h] at d3; simp at d3)
/-- Two lists of values that agree on the variables below l. -/
def Agr (R : Nat → Nat → Bool) (n nv l : Nat) (V U W : Nat → Nat) : Prop := ∀ v, v < nv → Le R n (V v) l → U v = W v
theorem evE_low (A : Lat n R) (hV : ∀ k, k < nv → V k < n) {l : Nat} (hU : Agr R n nv l V U W) : ∀ f i j, scE c nv f i = (j, false) →
    (Le R n (labE c R n V f i).2.1 l → evE c U f i = evE c W f i) ∧ (Le R n (labE c R n V f i).2.2.1 l → (evE c U f i = none ↔ evE c W f i = none)) := by
  intro f
  induction f with
  | zero => intro i j h; simp [scE] at h
  | succ f ih =>
    intro i j hs
    cases ho : isOp (c i)
    · obtain ⟨rfl, h2 | ⟨h2, h3⟩⟩ := scE_inv_leaf hs ho
      · rw [evE_dig ho h2, evE_dig ho h2]; exact ⟨fun _ => rfl, fun _ => Iff.rfl⟩
      · rw [labE_var ho h2, evE_var ho h2, evE_var ho h2]
        obtain ⟨k, e, hk⟩ := isVar_nat h3
        simp only
        rw [e]
        exact ⟨fun h => congrArg some (hU k hk h), fun _ => by simp⟩
    · obtain ⟨k, e1, e2⟩ := scE_inv_op hs ho
      obtain ⟨a1, a2⟩ := ih _ _ e1
      obtain ⟨b1, b2⟩ := ih _ _ e2
      obtain ⟨x1, x2, x3⟩ := labE_ok (c := c) A.L A.n1 hV f _ _ e1
      obtain ⟨y1, y2, y3⟩ := labE_ok (c := c) A.L A.n1 hV f _ _ e2
      rw [labE_op ho, x1, evE_op ho, evE_op ho]
      simp only
      rw [skE_of f _ _ f e1 (Nat.le_refl _)]
      constructor
      · intro h
        have h := (A.low_jn x2 y2).1 h
        rw [a1 h.1, b1 h.2]
      · intro h
        have h1 : Le R n (labE c R n V f (i + 1)).2.2.1 l ∧ Le R n (labE c R n V f k).2.2.1 l ∧ (c i = 47 → Le R n (labE c R n V f k).2.1 l) := by
          split at h
          · have g := (A.low_jn (A.lt x3 y3) y2).1 h
            have g2 := (A.low_jn x3 y3).1 g.1
            exact ⟨g2.1, g2.2, fun _ => g.2⟩
          · rename_i hne
            have g2 := (A.low_jn x3 y3).1 h
            exact ⟨g2.1, g2.2, fun e => absurd e hne⟩
        have q1 := a2 h1.1
        have q2 := b2 h1.2.1
        cases ea : evE c U f (i + 1) with
        | none => rw [q1.1 ea]; exact Iff.rfl
        | some a =>
          cases ea' : evE c W f (i + 1) with
          | none => rw [q1.2 ea'] at ea; cases ea
          | some a' =>
            simp only [bindV]
            cases eb : evE c U f k with
            | none => rw [q2.1 eb]
            | some b =>
              cases eb' : evE c W f k with
              | none => rw [q2.2 eb'] at eb; cases eb
              | some b' =>
                simp only
                by_cases hd : c i = 47
                · have := b1 (h1.2.2 hd)
                  rw [eb, eb'] at this
                  injection this with this
                  subst this
                  exact opV_none
                · exact ⟨fun h => absurd h (opV_some hd), fun h => absurd h (opV_some hd)⟩
end

end Go.Proofs.Ytfcflnnleadpkaa

namespace Go.Proofs.Ytfcflnnleadpkaa

section
variable {c : Nat → Int} {nv n np : Nat} {R : Nat → Nat → Bool} {V T : Nat → Nat}

theorem Lat.ext (A : Lat n R) {a b : Nat} (ha : a < n) (hb : b < n) (h : ∀ u, Le R n a u ↔ Le R n b u) : a = b :=
  A.anti ((h b).2 (A.refl hb)) ((h a).1 (A.refl ha))
theorem Lat.jn_bot (A : Lat n R) {a : Nat} (ha : a < n) : jn R n a (bot R n) = a := A.jn_eq (A.bl ha)
theorem Lat.bot_jn (A : Lat n R) {a : Nat} (ha : a < n) : jn R n (bot R n) a = a := A.jn_eq' (A.bl ha)
/-- The bottom, or the context joined with something that does not hang on it. -/
def ThF (R : Nat → Nat → Bool) (n : Nat) (g : Nat → Nat) : Prop :=
  (∀ p, p < n → g p = bot R n) ∨ ∃ x, x < n ∧ ∀ p, p < n → g p < n ∧ ∀ u, Le R n (g p) u ↔ Le R n p u ∧ Le R n x u
/-- The context joined with something. -/
def CtF (R : Nat → Nat → Bool) (n : Nat) (h : Nat → Nat) : Prop := ∃ x, x < n ∧ ∀ p, p < n → h p < n ∧ ∀ u, Le R n (h p) u ↔ Le R n p u ∧ Le R n x u

theorem ThF.join (A : Lat n R) {g h : Nat → Nat} (hg : ThF R n g) (hh : ThF R n h) : ThF R n (fun p => jn R n (g p) (h p)) := by
  have hb := bot_lt (R := R) A.n1
  rcases hg with hg | ⟨x, hx, hg⟩
  · rcases hh with hh | ⟨y, hy, hh⟩
    · exact Or.inl (fun p hp => by simp only; rw [hg p hp, hh p hp, A.jn_bot hb])
    · exact Or.inr ⟨y, hy, fun p hp => by simp only; rw [hg p hp, A.bot_jn (hh p hp).1]; exact hh p hp⟩
  · rcases hh with hh | ⟨y, hy, hh⟩
    · exact Or.inr ⟨x, hx, fun p hp => by simp only; rw [hh p hp, A.jn_bot (hg p hp).1]; exact hg p hp⟩
    · refine Or.inr ⟨jn R n x y, A.lt hx hy, fun p hp => ⟨A.lt (hg p hp).1 (hh p hp).1, fun u => ?_⟩⟩
      rw [A.low_jn (hg p hp).1 (hh p hp).1, A.low_jn hx hy, (hg p hp).2 u, (hh p hp).2 u]
      exact ⟨fun h => ⟨h.1.1, h.1.2, h.2.2⟩, fun h => ⟨⟨h.1, h.2.1⟩, h.1, h.2.2⟩⟩
theorem ThF.comp (A : Lat n R) {g h : Nat → Nat} (hg : ThF R n g) (hh : CtF R n h) : ThF R n (fun p => g (h p)) := by
  obtain ⟨y, hy, hh⟩ := hh
  rcases hg with hg | ⟨x, hx, hg⟩
  · exact Or.inl (fun p hp => hg _ (hh p hp).1)
  · refine Or.inr ⟨jn R n y x, A.lt hy hx, fun p hp => ⟨(hg _ (hh p hp).1).1, fun u => ?_⟩⟩
    rw [(hg _ (hh p hp).1).2 u, (hh p hp).2 u, A.low_jn hy hx, and_assoc]
theorem CtF.id (A : Lat n R) : CtF R n (fun p => p) := ⟨bot R n, bot_lt A.n1, fun _ hp => ⟨hp, fun _ => ⟨fun h => ⟨h, A.bl h.2.2⟩, fun h => h.1⟩⟩⟩
theorem CtF.join (A : Lat n R) {g h : Nat → Nat} (hh : CtF R n h) (hg : ThF R n g) : CtF R n (fun p => jn R n (h p) (g p)) := by
  obtain ⟨y, hy, hh⟩ := hh
  rcases hg with hg | ⟨x, hx, hg⟩
  · exact ⟨y, hy, fun p hp => by simp only; rw [hg p hp, A.jn_bot (hh p hp).1]; exact hh p hp⟩
  · refine ⟨jn R n y x, A.lt hy hx, fun p hp => ⟨A.lt (hh p hp).1 (hg p hp).1, fun u => ?_⟩⟩
    rw [A.low_jn (hh p hp).1 (hg p hp).1, (hh p hp).2 u, (hg p hp).2 u, A.low_jn hy hx]
    exact ⟨fun h => ⟨h.1.1, h.1.2, h.2.2⟩, fun h => ⟨⟨h.1, h.2.1⟩, h.1, h.2.2⟩⟩
theorem CtF.const (A : Lat n R) {a : Nat} (ha : a < n) : CtF R n (fun p => jn R n p a) := ⟨a, ha, fun _ hp => ⟨A.lt hp ha, fun _ => A.low_jn hp ha⟩⟩
theorem ThF.ofCt {h : Nat → Nat} (hh : CtF R n h) : ThF R n h := Or.inr hh
theorem ThF.bot : ThF R n (fun _ => bot R n) := Or.inl (fun _ _ => rfl)
theorem ThF.D (A : Lat n R) {b : Bool} {d : Nat} (hd : d < n) : ThF R n (fun p => if b = true then jn R n p d else Go.Proofs.Ytfcflnnleadpkaa.bot R n) := by
  cases b
  · exact ThF.bot
  · exact ThF.ofCt (CtF.const A hd)
/-- Not above the context: the bottom, in any context. -/
theorem ThF.lt (A : Lat n R) {g : Nat → Nat} (h : ThF R n g) {p : Nat} (hp : p < n) : g p < n := by
  rcases h with h | ⟨x, _, h⟩
  · rw [h p hp]; exact bot_lt A.n1
  · exact (h p hp).1
/-- Joined with itself: the same. -/
theorem ThF.idem (A : Lat n R) {g : Nat → Nat} (h : ThF R n g) {p : Nat} (hp : p < n) : g (jn R n p (g p)) = g p := by
  rcases h with h | ⟨x, hx, h⟩
  · rw [h p hp, A.jn_bot hp, h p hp]
  · have h1 := h p hp
    have h2 := h (jn R n p (g p)) (A.lt hp h1.1)
    refine A.ext h2.1 h1.1 (fun u => ?_)
    rw [h2.2 u, A.low_jn hp h1.1, h1.2 u]
    exact ⟨fun h => h.1.2, fun h => ⟨⟨h.1, h⟩, h.2⟩⟩

/-- A statement's throw. -/
theorem wd_thr (A : Lat n R) (hV : ∀ k, k < nv → V k < n) (hT : ∀ k, k < np → T k < n) : ∀ (f i j : Nat), wfS c nv n np f i = (j, false) → ThF R n (fun p => (wd c R n V T f i p).2.1) := by
  intro f
  induction f with
  | zero => intro i j h; simp [wfS] at h
  | succ f ih =>
    intro i j h
    have hcond : ∀ {i j : Nat}, scE c nv f i = (j, false) → CtF R n (fun p => (condW c R n V f i p).2.1) ∧ ThF R n (fun p => (condW c R n V f i p).2.2) := by
      intro i j hs
      obtain ⟨a1, a2, a3⟩ := labE_ok (c := c) A.L A.n1 hV f i j hs
      exact ⟨CtF.const A a2, ThF.D A a3⟩
    rcases wfS_letter h with hc | hc | hc | hc | hc | hc | hc | hc
    · rcases hc with hc | hc
      · refine Or.inl (fun p hp => ?_)
        simp only; rw [wd_dot hc]
      · have := ThF.ofCt (CtF.id A)
        rcases this with h1 | ⟨x, hx, h1⟩
        · exact Or.inl (fun p hp => by simp only; rw [wd_x hc]; exact h1 p hp)
        · exact Or.inr ⟨x, hx, fun p hp => by simp only; rw [wd_x hc]; exact h1 p hp⟩
    · obtain ⟨k, e1, e2⟩ := wfS_inv_seq h hc
      have h1 := ih _ _ e1
      have h2 := ih _ _ e2
      have hctx := (CtF.id A).join A h1
      have h3 := h2.comp A hctx
      have e : ∀ p, p < n → (wd c R n V T (f + 1) i p).2.1 = if c i = 44 then jn R n (wd c R n V T f (i + 1) p).2.1 (wd c R n V T f k (jn R n p (wd c R n V T f (i + 1) p).2.1)).2.1 else (wd c R n V T f k (jn R n p (wd c R n V T f (i + 1) p).2.1)).2.1 := by
        intro p hp
        rw [wd_seq hc]
        simp only
        rw [(wd_ok (c := c) A.L A.n1 hV hT f (i + 1) p k e1 hp).1]
      have h4 : ThF R n (fun p => if c i = 44 then jn R n (wd c R n V T f (i + 1) p).2.1 (wd c R n V T f k (jn R n p (wd c R n V T f (i + 1) p).2.1)).2.1 else (wd c R n V T f k (jn R n p (wd c R n V T f (i + 1) p).2.1)).2.1) := by
        by_cases h44 : c i = 44
        · simp only [if_pos h44]; exact h1.join A h3
        · simp only [if_neg h44]; exact h3
      rcases h4 with h5 | ⟨x, hx, h5⟩
      · exact Or.inl (fun p hp => (e p hp).trans (h5 p hp))
      · exact Or.inr ⟨x, hx, fun p hp => by simp only; rw [e p hp]; exact h5 p hp⟩
    · obtain ⟨e1, e2⟩ := wfS_inv_eq h hc
      have h1 := (hcond e2).2
      have e : ∀ p, (wd c R n V T (f + 1) i p).2.1 = (condW c R n V f (i + 2) p).2.2 := fun p => by rw [wd_eq hc]
      simp only [e]; exact h1
    · obtain ⟨k, m, e1, e2, e3⟩ := wfS_inv_i h hc
      obtain ⟨c1, c2⟩ := hcond e1
      have h1 := (ih _ _ e2).comp A c1
      have h2 := (ih _ _ e3).comp A c1
      have h4 := c2.join A (h1.join A h2)
      have e : ∀ p, p < n → (wd c R n V T (f + 1) i p).2.1 = jn R n (condW c R n V f (i + 1) p).2.2 (jn R n (wd c R n V T f k (condW c R n V f (i + 1) p).2.1).2.1 (wd c R n V T f m (condW c R n V f (i + 1) p).2.1).2.1) := by
        intro p hp
        obtain ⟨a1, a2, a3⟩ := condW_ok (c := c) A.L A.n1 hV hp e1
        rw [wd_i hc]
        simp only
        rw [a1, (wd_ok (c := c) A.L A.n1 hV hT f k _ m e2 a2).1]
      rcases h4 with h5 | ⟨x, hx, h5⟩
      · exact Or.inl (fun p hp => (e p hp).trans (h5 p hp))
      · exact Or.inr ⟨x, hx, fun p hp => by simp only; rw [e p hp]; exact h5 p hp⟩
    · obtain ⟨k, e1, e2⟩ := wfS_inv_w h hc
      obtain ⟨c1, c2⟩ := hcond e1
      have h4 := c2.join A ((ih _ _ e2).comp A (c1.join A c2))
      have e : ∀ p, p < n → (wd c R n V T (f + 1) i p).2.1 = jn R n (condW c R n V f (i + 1) p).2.2 (wd c R n V T f k (jn R n (condW c R n V f (i + 1) p).2.1 (condW c R n V f (i + 1) p).2.2)).2.1 := by
        intro p hp
        obtain ⟨a1, a2, a3⟩ := condW_ok (c := c) A.L A.n1 hV hp e1
        rw [wd_w hc]
        simp only
        rw [a1]
      rcases h4 with h5 | ⟨x, hx, h5⟩
      · exact Or.inl (fun p hp => (e p hp).trans (h5 p hp))
      · exact Or.inr ⟨x, hx, fun p hp => by simp only; rw [e p hp]; exact h5 p hp⟩
    · obtain ⟨e1, e2, rfl⟩ := wfS_inv_r h hc
      obtain ⟨d, ed, hd⟩ := isDB_nat e1
      have e : ∀ p, (wd c R n V T (f + 1) i p).2.1 = jn R n p d := fun p => by rw [wd_r hc, ed]; rfl
      simp only [e]; exact ThF.ofCt (CtF.const A hd)
    · obtain ⟨e1, e2⟩ := wfS_inv_o h hc
      have h1 := (hcond e2).2
      have e : ∀ p, (wd c R n V T (f + 1) i p).2.1 = (condW c R n V f (i + 2) p).2.2 := fun p => by rw [wd_o hc]
      simp only [e]; exact h1
    · obtain ⟨e1, rfl⟩ := wfS_inv_c h hc
      obtain ⟨d, ed, hd⟩ := isDB_nat e1
      have e : ∀ p, (wd c R n V T (f + 1) i p).2.1 = jn R n p (T d) := fun p => by rw [wd_c hc, ed]; rfl
      simp only [e]; exact ThF.ofCt (CtF.const A (hT d hd))
end

end Go.Proofs.Ytfcflnnleadpkaa

namespace Go.Proofs.Ytfcflnnleadpkaa

/-- What a run does to a state: it puts out more, takes more; each takes fuel. -/
structure Grow (st r : RS) : Prop where
  out : ∃ l, r.out = st.out ++ l ∧ l.length + r.fuel ≤ st.fuel
  tk : ∀ d, st.tk d ≤ r.tk d ∧ r.tk d + r.fuel ≤ st.tk d + st.fuel
theorem Grow.refl (st : RS) : Grow st st := ⟨⟨[], by simp, by simp⟩, fun _ => ⟨Nat.le_refl _, Nat.le_refl _⟩⟩
theorem Grow.trans {a b d : RS} (h : Grow a b) (k : Grow b d) : Grow a d := by
  obtain ⟨l, e1, l1⟩ := h.out
  obtain ⟨m, e2, l2⟩ := k.out
  refine ⟨⟨l ++ m, by rw [e2, e1, List.append_assoc], by simp; omega⟩, fun x => ?_⟩
  have h1 := h.tk x
  have h2 := k.tk x
  omega
theorem Grow.dec (st : RS) : Grow st (dec st) := ⟨⟨[], by simp [Go.Proofs.Ytfcflnnleadpkaa.dec], by simp [Go.Proofs.Ytfcflnnleadpkaa.dec]⟩, fun d => by simp [Go.Proofs.Ytfcflnnleadpkaa.dec]⟩
theorem Grow.fuel {a b : RS} (h : Grow a b) : b.fuel ≤ a.fuel := by obtain ⟨l, _, h2⟩ := h.out; omega

theorem lpW_grow {run : RS → RS × Nat} {ev : (Nat → Nat) → Option Nat} (h : ∀ st, Grow st (run st).1) : ∀ g st, Grow st (lpW run ev g st).1 := by
  intro g
  induction g with
  | zero =>
    intro st
    simp only [lpW]
    split
    · exact Grow.refl _
    · split
      · exact Grow.refl _
      · split
        · exact h st
        · exact h st
  | succ g ih =>
    intro st
    simp only [lpW]
    split
    · exact Grow.refl _
    · split
      · exact Grow.refl _
      · split
        · split
          · exact h st
          · exact (h st).trans ((Grow.dec _).trans (ih _))
        · exact h st

section
variable {c : Nat → Int} {inp : Nat → List Nat} {P : Nat → Nat} {F : Nat} {g i k : Nat} {st : RS}

theorem exS_spent (h : st.fuel = 0) : exS c inp P F g i k st = (st, 0) := by
  cases g with
  | zero => rfl
  | succ g => simp only [exS]; rw [if_pos h]
theorem exS_seq (h : st.fuel ≠ 0) (hc : c i = 44) : exS c inp P F (g + 1) i k st = thenW 1 (exS c inp P F g (i + 1) k (dec st)) (exS c inp P F g (skS c F (i + 1)) k) := by
  simp only [exS]; rw [if_neg h, if_pos hc]
theorem exS_t (h : st.fuel ≠ 0) (hc : c i = 116) : exS c inp P F (g + 1) i k st = thenW 2 (exS c inp P F g (i + 1) k (dec st)) (exS c inp P F g (skS c F (i + 1)) k) := by
  simp only [exS]; rw [if_neg h, if_neg (by omega), if_pos hc]
theorem exS_eq (h : st.fuel ≠ 0) (hc : c i = 61) : exS c inp P F (g + 1) i k st = setW (dec st) (c (i + 1) - 97).toNat (evE c st.V F (i + 2)) := by
  simp only [exS]; rw [if_neg h, if_neg (by omega), if_neg (by omega), if_pos hc]
theorem exS_i (h : st.fuel ≠ 0) (hc : c i = 105) : exS c inp P F (g + 1) i k st = ifW (dec st) (evE c st.V F (i + 1)) (exS c inp P F g (skE c F (i + 1)) k) (exS c inp P F g (skS c F (skE c F (i + 1))) k) := by
  simp only [exS]; rw [if_neg h, if_neg (by omega), if_neg (by omega), if_neg (by omega), if_pos hc]
theorem exS_w (h : st.fuel ≠ 0) (hc : c i = 119) : exS c inp P F (g + 1) i k st = lpW (exS c inp P F g (skE c F (i + 1)) k) (fun V => evE c V F (i + 1)) g (dec st) := by
  simp only [exS]; rw [if_neg h, if_neg (by omega), if_neg (by omega), if_neg (by omega), if_neg (by omega), if_pos hc]
theorem exS_r (h : st.fuel ≠ 0) (hc : c i = 114) : exS c inp P F (g + 1) i k st = rdW (dec st) (c (i + 1) - 48).toNat (c (i + 2) - 97).toNat ((inp (c (i + 1) - 48).toNat)[st.tk (c (i + 1) - 48).toNat]?) := by
  simp only [exS]; rw [if_neg h, if_neg (by omega), if_neg (by omega), if_neg (by omega), if_neg (by omega), if_neg (by omega), if_pos hc]
theorem exS_o (h : st.fuel ≠ 0) (hc : c i = 111) : exS c inp P F (g + 1) i k st = outW (dec st) (c (i + 1) - 48).toNat (evE c st.V F (i + 2)) := by
  simp only [exS]; rw [if_neg h, if_neg (by omega), if_neg (by omega), if_neg (by omega), if_neg (by omega), if_neg (by omega), if_neg (by omega), if_pos hc]
theorem exS_x (h : st.fuel ≠ 0) (hc : c i = 120) : exS c inp P F (g + 1) i k st = (dec st, 2) := by
  simp only [exS]; rw [if_neg h, if_neg (by omega), if_neg (by omega), if_neg (by omega), if_neg (by omega), if_neg (by omega), if_neg (by omega), if_neg (by omega), if_pos hc]
theorem exS_c (h : st.fuel ≠ 0) (hc : c i = 99) : exS c inp P F (g + 1) i k st = if 8 ≤ k then (dec st, 2) else exS c inp P F g (P (c (i + 1) - 48).toNat) (k + 1) (dec st) := by
  simp only [exS]; rw [if_neg h, if_neg (by omega), if_neg (by omega), if_neg (by omega), if_neg (by omega), if_neg (by omega), if_neg (by omega), if_neg (by omega), if_neg (by omega), if_pos hc]
theorem exS_no (h : st.fuel ≠ 0) (h1 : c i ≠ 44) (h2 : c i ≠ 116) (h3 : c i ≠ 61) (h4 : c i ≠ 105) (h5 : c i ≠ 119) (h6 : c i ≠ 114) (h7 : c i ≠ 111) (h8 : c i ≠ 120) (h9 : c i ≠ 99) : exS c inp P F (g + 1) i k st = (dec st, 1) := by
  simp only [exS]; rw [if_neg h, if_neg h1, if_neg h2, if_neg h3, if_neg h4, if_neg h5, if_neg h6, if_neg h7, if_neg h8, if_neg h9]

theorem exS_grow : ∀ (g i k : Nat) (st : RS), Grow st (exS c inp P F g i k st).1 := by
  intro g
  induction g with
  | zero => intro i k st; exact Grow.refl _
  | succ g ih =>
    intro i k st
    by_cases hf : st.fuel = 0
    · rw [exS_spent hf]; exact Grow.refl _
    have hd := Grow.dec st
    by_cases h1 : c i = 44
    · rw [exS_seq hf h1]; unfold thenW
      split
      · exact (hd.trans (ih _ _ _)).trans (ih _ _ _)
      · exact hd.trans (ih _ _ _)
    by_cases h2 : c i = 116
    · rw [exS_t hf h2]; unfold thenW
      split
      · exact (hd.trans (ih _ _ _)).trans (ih _ _ _)
      · exact hd.trans (ih _ _ _)
    by_cases h3 : c i = 61
    · rw [exS_eq hf h3]; unfold setW
      split
      · exact hd
      · exact ⟨hd.out, hd.tk⟩
    by_cases h4 : c i = 105
    · rw [exS_i hf h4]; unfold ifW
      split
      · exact hd
      · split
        · exact hd.trans (ih _ _ _)
        · exact hd.trans (ih _ _ _)
    by_cases h5 : c i = 119
    · rw [exS_w hf h5]; exact hd.trans (lpW_grow (fun st => ih _ _ st) _ _)
    by_cases h6 : c i = 114
    · rw [exS_r hf h6]; unfold rdW
      split
      · exact hd
      · refine ⟨hd.out, fun d => ?_⟩
        simp only [dec, setF]
        split
        · rename_i e; subst e; omega
        · omega
    by_cases h7 : c i = 111
    · rw [exS_o hf h7]; unfold outW
      split
      · exact hd
      · exact ⟨⟨[_], rfl, by simp [dec]; omega⟩, hd.tk⟩
    by_cases h8 : c i = 120
    · rw [exS_x hf h8]; exact hd
    by_cases h9 : c i = 99
    · rw [exS_c hf h9]
      split
      · exact hd
      · exact hd.trans (ih _ _ _)
    rw [exS_no hf h1 h2 h3 h4 h5 h6 h7 h8 h9]; exact hd
end

section
variable {c : Nat → Int} {nv n np : Nat} {R : Nat → Nat → Bool} {V X T : Nat → Nat} {inp : Nat → List Nat} {P : Nat → Nat} {F : Nat}

theorem lpW_calm {run : RS → RS × Nat} {ev : (Nat → Nat) → Option Nat} (h : ∀ st, (run st).2 ≠ 2) (he : ∀ V, ev V ≠ none) : ∀ g st, (lpW run ev g st).2 ≠ 2 := by
  intro g
  induction g with
  | zero =>
    intro st
    simp only [lpW]
    split
    · rename_i e; exact absurd e (he _)
    · split
      · simp
      · split
        · simp
        · exact h st
  | succ g ih =>
    intro st
    simp only [lpW]
    split
    · rename_i e; exact absurd e (he _)
    · split
      · simp
      · split
        · split
          · simp
          · exact ih _
        · exact h st
/-- A throw that is not above the context: none is thrown. -/
theorem exS_calm (A : Lat n R) (hV : ∀ k, k < nv → V k < n) (hT : ∀ k, k < np → T k < n) : ∀ (g f i j k p : Nat) (st : RS), wfS c nv n np f i = (j, false) → f ≤ F → p < n →
    ¬ Le R n p (wd c R n V T f i p).2.1 → (exS c inp P F g i k st).2 ≠ 2 := by
  intro g
  induction g with
  | zero => intro f i j k p st _ _ _ _; simp [exS]
  | succ g ih =>
    intro f i j k p st h hF hp hn
    by_cases hf : st.fuel = 0
    · rw [exS_spent hf]; simp
    cases f with
    | zero => simp [wfS] at h
    | succ f =>
      rcases wfS_letter h with hc | hc | hc | hc | hc | hc | hc | hc
      · rcases hc with hc | hc
        · rw [exS_no hf (by omega) (by omega) (by omega) (by omega) (by omega) (by omega) (by omega) (by omega) (by omega)]; simp
        · rw [wd_x hc] at hn; exact absurd (A.refl hp) hn
      · obtain ⟨m, e1, e2⟩ := wfS_inv_seq h hc
        obtain ⟨a1, a2, a3⟩ := wd_ok (c := c) A.L A.n1 hV hT f (i + 1) p m e1 hp
        have hctx := A.lt hp a2
        obtain ⟨b1, b2, b3⟩ := wd_ok (c := c) A.L A.n1 hV hT f m _ j e2 hctx
        have hsk := skS_of f (i + 1) m F e1 (by omega)
        rw [wd_seq hc] at hn
        simp only at hn
        rw [a1] at hn
        have h2 : ¬ Le R n (jn R n p (wd c R n V T f (i + 1) p).2.1) (wd c R n V T f m (jn R n p (wd c R n V T f (i + 1) p).2.1)).2.1 := by
          intro hle
          refine hn ?_
          have h3 := A.trans (A.l hp a2) hle
          split
          · exact A.trans h3 (A.r a2 b2)
          · exact h3
        rcases hc with hc | hc
        · rw [exS_seq hf hc, hsk]
          unfold thenW
          split
          · exact ih f m j k _ _ e2 (by omega) hctx h2
          · refine ih f (i + 1) m k p _ e1 (by omega) hp (fun hle => hn ?_)
            rw [if_pos hc]
            exact A.trans hle (A.l a2 b2)
        · rw [exS_t hf hc, hsk]
          unfold thenW
          split
          · exact ih f m j k _ _ e2 (by omega) hctx h2
          · rename_i hne; exact hne
      · obtain ⟨e1, e2⟩ := wfS_inv_eq h hc
        rw [exS_eq hf hc, evE_fuel f _ _ F e2 (by omega)]
        rw [wd_eq hc] at hn
        cases hd : (labE c R n V f (i + 2)).2.2.2
        · have := evE_nodiv (R := R) (n := n) (V := V) (U := st.V) f _ _ e2 hd
          unfold setW
          split
          · rename_i e; exact absurd e this
          · simp
        · refine absurd ?_ hn
          simp only [condW, hd, if_true]
          exact A.l hp (labE_ok (c := c) A.L A.n1 hV f _ _ e2).2.2
      · obtain ⟨m, q, e1, e2, e3⟩ := wfS_inv_i h hc
        obtain ⟨a1, a2, a3⟩ := condW_ok (c := c) A.L A.n1 hV hp e1
        have hq : Le R n p (condW c R n V f (i + 1) p).2.1 := A.l hp (labE_ok (c := c) A.L A.n1 hV f _ _ e1).2.1
        obtain ⟨b1, b2, b3⟩ := wd_ok (c := c) A.L A.n1 hV hT f m _ q e2 a2
        obtain ⟨d1, d2, d3⟩ := wd_ok (c := c) A.L A.n1 hV hT f q _ j e3 a2
        rw [exS_i hf hc, evE_fuel f _ _ F e1 (by omega), skE_of f _ _ F e1 (by omega), skS_of f _ _ F e2 (by omega)]
        rw [wd_i hc] at hn
        simp only at hn
        rw [a1, b1] at hn
        cases hd : (labE c R n V f (i + 1)).2.2.2
        · have := evE_nodiv (R := R) (n := n) (V := V) (U := st.V) f _ _ e1 hd
          unfold ifW
          split
          · rename_i e; exact absurd e this
          · split
            · exact ih f q j k _ _ e3 (by omega) a2 (fun hle => hn (A.trans (A.trans (A.trans hq hle) (A.r b2 d2)) (A.r a3 (A.lt b2 d2))))
            · exact ih f m q k _ _ e2 (by omega) a2 (fun hle => hn (A.trans (A.trans (A.trans hq hle) (A.l b2 d2)) (A.r a3 (A.lt b2 d2))))
        · refine absurd ?_ hn
          have h5 : Le R n p (condW c R n V f (i + 1) p).2.2 := by
            simp only [condW, hd, if_true]
            exact A.l hp (labE_ok (c := c) A.L A.n1 hV f _ _ e1).2.2
          exact A.trans h5 (A.l a3 (A.lt b2 d2))
      · obtain ⟨m, e1, e2⟩ := wfS_inv_w h hc
        obtain ⟨a1, a2, a3⟩ := condW_ok (c := c) A.L A.n1 hV hp e1
        have hq : Le R n p (condW c R n V f (i + 1) p).2.1 := A.l hp (labE_ok (c := c) A.L A.n1 hV f _ _ e1).2.1
        have hrr := A.lt a2 a3
        obtain ⟨b1, b2, b3⟩ := wd_ok (c := c) A.L A.n1 hV hT f m _ j e2 hrr
        rw [exS_w hf hc, skE_of f _ _ F e1 (by omega)]
        rw [wd_w hc] at hn
        simp only at hn
        rw [a1] at hn
        cases hd : (labE c R n V f (i + 1)).2.2.2
        · refine lpW_calm (fun st => ih f m j k _ st e2 (by omega) hrr (fun hle => hn ?_)) (fun U => ?_) _ _
          · exact A.trans (A.trans (A.trans hq (A.l a2 a3)) hle) (A.r a3 b2)
          · rw [evE_fuel f _ _ F e1 (by omega)]
            exact evE_nodiv (R := R) (n := n) (V := V) f _ _ e1 hd
        · refine absurd ?_ hn
          have h5 : Le R n p (condW c R n V f (i + 1) p).2.2 := by
            simp only [condW, hd, if_true]
            exact A.l hp (labE_ok (c := c) A.L A.n1 hV f _ _ e1).2.2
          exact A.trans h5 (A.l a3 b2)
      · obtain ⟨e1, e2, rfl⟩ := wfS_inv_r h hc
        obtain ⟨d, ed, hd⟩ := isDB_nat e1
        rw [wd_r hc, ed] at hn
        exact absurd (A.l hp hd) hn
      · obtain ⟨e1, e2⟩ := wfS_inv_o h hc
        rw [exS_o hf hc, evE_fuel f _ _ F e2 (by omega)]
        rw [wd_o hc] at hn
        cases hd : (labE c R n V f (i + 2)).2.2.2
        · have := evE_nodiv (R := R) (n := n) (V := V) (U := st.V) f _ _ e2 hd
          unfold outW
          split
          · rename_i e; exact absurd e this
          · simp
        · refine absurd ?_ hn
          simp only [condW, hd, if_true]
          exact A.l hp (labE_ok (c := c) A.L A.n1 hV f _ _ e2).2.2
      · obtain ⟨e1, rfl⟩ := wfS_inv_c h hc
        obtain ⟨d, ed, hd⟩ := isDB_nat e1
        rw [wd_c hc, ed] at hn
        exact absurd (A.l hp (hT d hd)) hn
end

end Go.Proofs.Ytfcflnnleadpkaa

namespace Go.Proofs.Ytfcflnnleadpkaa

/-- What was put out at levels below l. -/
def seenL (R : Nat → Nat → Bool) (n l : Nat) (es : List (Nat × Nat)) : List (Nat × Nat) := es.filter (fun e => decide (e.1 < n) && R e.1 l)
/-- Two states that are the same below l. -/
structure Simi (R : Nat → Nat → Bool) (n nv l : Nat) (V : Nat → Nat) (a b : RS) : Prop where
  V : Agr R n nv l V a.V b.V
  tk : ∀ d, Le R n d l → a.tk d = b.tk d
  out : seenL R n l a.out = seenL R n l b.out
/-- All demands hold. -/
def DemH (R : Nat → Nat → Bool) (V X : Nat → Nat) (ds : List Dm) : Prop := ∀ d ∈ ds, R d.a (tgv V X d.tg) = true
/-- A labelling that fits the procedures. -/
structure FitP (c : Nat → Int) (R : Nat → Nat → Bool) (n nv np : Nat) (V X T : Nat → Nat) (P : Nat → Nat) (F : Nat) : Prop where
  iv : ∀ k, k < nv → V k < n
  ix : ∀ k, k < np → X k < n
  it : ∀ k, k < np → T k < n
  proc : ∀ k, k < np → ∃ j, wfS c nv n np F (P k) = (j, false) ∧ DemH R V X (wd c R n V T F (P k) (X k)).2.2 ∧ Le R n (wd c R n V T F (P k) (X k)).2.1 (T k)

section
variable {c : Nat → Int} {nv n np l : Nat} {R : Nat → Nat → Bool} {V X T : Nat → Nat} {inp : Nat → List Nat} {P : Nat → Nat} {F : Nat} {a b d : RS}

theorem DemH.fst {ds es : List Dm} (h : DemH R V X (ds ++ es)) : DemH R V X ds := fun d hd => h d (List.mem_append.2 (Or.inl hd))
theorem DemH.snd {ds es : List Dm} (h : DemH R V X (ds ++ es)) : DemH R V X es := fun d hd => h d (List.mem_append.2 (Or.inr hd))
theorem DemH.get {d : Dm} (h : DemH R V X [d]) : R d.a (tgv V X d.tg) = true := h d (List.mem_singleton.2 rfl)
theorem Simi.refl (a : RS) : Simi R n nv l V a a := ⟨fun _ _ _ => rfl, fun _ _ => rfl, rfl⟩
theorem Simi.symm (h : Simi R n nv l V a b) : Simi R n nv l V b a := ⟨fun v hv hl => (h.V v hv hl).symm, fun d hd => (h.tk d hd).symm, h.out.symm⟩
theorem Simi.trans (h : Simi R n nv l V a b) (k : Simi R n nv l V b d) : Simi R n nv l V a d := ⟨fun v hv hl => (h.V v hv hl).trans (k.V v hv hl), fun x hx => (h.tk x hx).trans (k.tk x hx), h.out.trans k.out⟩
theorem Simi.dec (a : RS) : Simi R n nv l V a (dec a) := ⟨fun _ _ _ => rfl, fun _ _ => rfl, rfl⟩
theorem Simi.decs (h : Simi R n nv l V a b) : Simi R n nv l V (Go.Proofs.Ytfcflnnleadpkaa.dec a) (Go.Proofs.Ytfcflnnleadpkaa.dec b) := ⟨h.V, h.tk, h.out⟩
theorem seenL_app (es fs : List (Nat × Nat)) : seenL R n l (es ++ fs) = seenL R n l es ++ seenL R n l fs := by unfold seenL; rw [List.filter_append]
theorem seenL_hi {x y : Nat} (h : ¬ Le R n x l) (hl : l < n) (es : List (Nat × Nat)) : seenL R n l (es ++ [(x, y)]) = seenL R n l es := by
  rw [seenL_app]
  have : seenL R n l [(x, y)] = [] := by
    unfold seenL
    rw [List.filter_cons_of_neg]
    · rfl
    · simp only [Bool.and_eq_true, decide_eq_true_eq]
      intro hh
      exact h ⟨hh.2, hh.1, hl⟩
  rw [this, List.append_nil]
theorem Simi.setHi {v y : Nat} (h : ¬ Le R n (V v) l) (a : RS) : Simi R n nv l V a { a with V := setF a.V v y } := by
  refine ⟨fun u hu hlu => ?_, fun _ _ => rfl, rfl⟩
  show a.V u = setF a.V v y u
  unfold setF
  split
  · rename_i e; rw [e] at hlu; exact absurd hlu h
  · rfl

theorem lpW_high {run : RS → RS × Nat} {ev : (Nat → Nat) → Option Nat} (h : ∀ st, Simi R n nv l V st (run st).1) : ∀ g st, Simi R n nv l V st (lpW run ev g st).1 := by
  intro g
  induction g with
  | zero =>
    intro st
    simp only [lpW]
    split
    · exact Simi.refl _
    · split
      · exact Simi.refl _
      · split
        · exact h st
        · exact h st
  | succ g ih =>
    intro st
    simp only [lpW]
    split
    · exact Simi.refl _
    · split
      · exact Simi.refl _
      · split
        · split
          · exact h st
          · exact (h st).trans ((Simi.dec _).trans (ih _))
        · exact h st

/-- In a context that is not below l, nothing below l is written, taken or put out. -/
theorem exS_high (A : Lat n R) (hl : l < n) (H : FitP c R n nv np V X T P F) : ∀ (g f i j k p : Nat) (st : RS), wfS c nv n np f i = (j, false) → f ≤ F → p < n → ¬ Le R n p l →
    DemH R V X (wd c R n V T f i p).2.2 → Simi R n nv l V st (exS c inp P F g i k st).1 := by
  have hV := H.iv
  have hT := H.it
  intro g
  induction g with
  | zero => intro f i j k p st _ _ _ _ _; exact Simi.refl _
  | succ g ih =>
    intro f i j k p st h hF hp hn hD
    by_cases hf : st.fuel = 0
    · rw [exS_spent hf]; exact Simi.refl _
    have hd0 : Simi R n nv l V st (dec st) := Simi.dec st
    cases f with
    | zero => simp [wfS] at h
    | succ f =>
      rcases wfS_letter h with hc | hc | hc | hc | hc | hc | hc | hc
      · rcases hc with hc | hc
        · rw [exS_no hf (by omega) (by omega) (by omega) (by omega) (by omega) (by omega) (by omega) (by omega) (by omega)]; exact hd0
        · rw [exS_x hf hc]; exact hd0
      · obtain ⟨m, e1, e2⟩ := wfS_inv_seq h hc
        obtain ⟨a1, a2, a3⟩ := wd_ok (c := c) A.L A.n1 hV hT f (i + 1) p m e1 hp
        have hctx := A.lt hp a2
        have hsk := skS_of f (i + 1) m F e1 (by omega)
        rw [wd_seq hc] at hD
        simp only at hD
        rw [a1] at hD
        have s1 := ih f (i + 1) m k p (dec st) e1 (by omega) hp hn hD.fst
        have s2 := fun st => ih f m j k _ st e2 (by omega) hctx (fun h => hn (A.trans (A.l hp a2) h)) hD.snd
        rcases hc with hc | hc
        · rw [exS_seq hf hc, hsk]
          unfold thenW
          split
          · exact hd0.trans (s1.trans (s2 _))
          · exact hd0.trans s1
        · rw [exS_t hf hc, hsk]
          unfold thenW
          split
          · exact hd0.trans (s1.trans (s2 _))
          · exact hd0.trans s1
      · obtain ⟨e1, e2⟩ := wfS_inv_eq h hc
        obtain ⟨v, ev, hv⟩ := isVar_nat e1
        rw [exS_eq hf hc, ev]
        rw [wd_eq hc, ev] at hD
        have hq : Le R n p (condW c R n V f (i + 2) p).2.1 := A.l hp (labE_ok (c := c) A.L A.n1 hV f _ _ e2).2.1
        have hh : ¬ Le R n (V v) l := fun hlow => hn (A.trans hq (A.trans ⟨hD.get, hq.2.2, hV v hv⟩ hlow))
        unfold setW
        split
        · exact hd0
        · exact hd0.trans (Simi.setHi hh _)
      · obtain ⟨m, q, e1, e2, e3⟩ := wfS_inv_i h hc
        obtain ⟨a1, a2, a3⟩ := condW_ok (c := c) A.L A.n1 hV hp e1
        have hq : Le R n p (condW c R n V f (i + 1) p).2.1 := A.l hp (labE_ok (c := c) A.L A.n1 hV f _ _ e1).2.1
        obtain ⟨b1, b2, b3⟩ := wd_ok (c := c) A.L A.n1 hV hT f m _ q e2 a2
        rw [exS_i hf hc, skE_of f _ _ F e1 (by omega), skS_of f _ _ F e2 (by omega)]
        rw [wd_i hc] at hD
        simp only at hD
        rw [a1, b1] at hD
        unfold ifW
        split
        · exact hd0
        · split
          · exact hd0.trans (ih f q j k _ _ e3 (by omega) a2 (fun h => hn (A.trans hq h)) hD.snd)
          · exact hd0.trans (ih f m q k _ _ e2 (by omega) a2 (fun h => hn (A.trans hq h)) hD.fst)
      · obtain ⟨m, e1, e2⟩ := wfS_inv_w h hc
        obtain ⟨a1, a2, a3⟩ := condW_ok (c := c) A.L A.n1 hV hp e1
        have hq : Le R n p (condW c R n V f (i + 1) p).2.1 := A.l hp (labE_ok (c := c) A.L A.n1 hV f _ _ e1).2.1
        have hrr := A.lt a2 a3
        obtain ⟨b1, b2, b3⟩ := wd_ok (c := c) A.L A.n1 hV hT f m _ j e2 hrr
        rw [exS_w hf hc, skE_of f _ _ F e1 (by omega)]
        rw [wd_w hc] at hD
        simp only at hD
        rw [a1] at hD
        exact hd0.trans (lpW_high (fun st => ih f m j k _ st e2 (by omega) (A.lt hrr b2) (fun h => hn (A.trans (A.trans hq (A.l a2 a3)) (A.trans (A.l hrr b2) h))) hD) _ _)
      · obtain ⟨e1, e2, rfl⟩ := wfS_inv_r h hc
        obtain ⟨x, ex, hx⟩ := isDB_nat e1
        obtain ⟨v, ev, hv⟩ := isVar_nat e2
        rw [exS_r hf hc, ex, ev]
        rw [wd_r hc, ex, ev] at hD
        have g1 : Le R n p x := ⟨hD ⟨i, p, .lev x⟩ (by simp), hp, hx⟩
        have g2 : Le R n (jn R n p x) (V v) := ⟨hD ⟨i, jn R n p x, .var v⟩ (by simp), A.lt hp hx, hV v hv⟩
        have hx2 : ¬ Le R n x l := fun h => hn (A.trans g1 h)
        have hv2 : ¬ Le R n (V v) l := fun h => hn (A.trans (A.l hp hx) (A.trans g2 h))
        unfold rdW
        split
        · exact hd0
        · refine hd0.trans ((Simi.setHi hv2 _).trans ⟨fun _ _ _ => rfl, fun y hy => ?_, rfl⟩)
          show (dec st).tk y = setF (dec st).tk _ _ y
          unfold setF
          split
          · rename_i e; rw [e] at hy; exact absurd hy hx2
          · rfl
      · obtain ⟨e1, e2⟩ := wfS_inv_o h hc
        obtain ⟨x, ex, hx⟩ := isDB_nat e1
        rw [exS_o hf hc, ex]
        rw [wd_o hc, ex] at hD
        have hq : Le R n p (condW c R n V f (i + 2) p).2.1 := A.l hp (labE_ok (c := c) A.L A.n1 hV f _ _ e2).2.1
        have hx2 : ¬ Le R n x l := fun h => hn (A.trans hq (A.trans ⟨hD.get, hq.2.2, hx⟩ h))
        unfold outW
        split
        · exact hd0
        · exact hd0.trans ⟨fun _ _ _ => rfl, fun _ _ => rfl, (seenL_hi hx2 hl _).symm⟩
      · obtain ⟨e1, rfl⟩ := wfS_inv_c h hc
        obtain ⟨x, ex, hx⟩ := isDB_nat e1
        rw [exS_c hf hc, ex]
        rw [wd_c hc, ex] at hD
        have g1 : Le R n p (X x) := ⟨hD.get, hp, H.ix x hx⟩
        obtain ⟨j', w1, w2, w3⟩ := H.proc x hx
        split
        · exact hd0
        · exact hd0.trans (ih F _ j' _ _ _ w1 (Nat.le_refl _) (H.ix x hx) (fun h => hn (A.trans g1 h)) w2)
end

end Go.Proofs.Ytfcflnnleadpkaa

namespace Go.Proofs.Ytfcflnnleadpkaa

section
variable {c : Nat → Int} {nv n np l : Nat} {R : Nat → Nat → Bool} {V X T : Nat → Nat} {inp inp1 inp2 : Nat → List Nat} {P : Nat → Nat} {F : Nat}

/-- How a statement ends. -/
theorem lpW_end {run : RS → RS × Nat} {ev : (Nat → Nat) → Option Nat} (h : ∀ st, (run st).2 ≤ 2) : ∀ g st, (lpW run ev g st).2 ≤ 2 := by
  intro g
  induction g with
  | zero =>
    intro st
    simp only [lpW]
    split
    · simp
    · split
      · simp
      · split
        · simp
        · exact h st
  | succ g ih =>
    intro st
    simp only [lpW]
    split
    · simp
    · split
      · simp
      · split
        · split
          · simp
          · exact ih _
        · exact h st
theorem exS_end : ∀ (g i k : Nat) (st : RS), (exS c inp P F g i k st).2 ≤ 2 := by
  intro g
  induction g with
  | zero => intro i k st; simp [exS]
  | succ g ih =>
    intro i k st
    by_cases hf : st.fuel = 0
    · rw [exS_spent hf]; simp
    by_cases h1 : c i = 44
    · rw [exS_seq hf h1]; unfold thenW
      split
      · exact ih _ _ _
      · exact ih _ _ _
    by_cases h2 : c i = 116
    · rw [exS_t hf h2]; unfold thenW
      split
      · exact ih _ _ _
      · exact ih _ _ _
    by_cases h3 : c i = 61
    · rw [exS_eq hf h3]; unfold setW
      split <;> simp
    by_cases h4 : c i = 105
    · rw [exS_i hf h4]; unfold ifW
      split
      · simp
      · split
        · exact ih _ _ _
        · exact ih _ _ _
    by_cases h5 : c i = 119
    · rw [exS_w hf h5]; exact lpW_end (fun st => ih _ _ st) _ _
    by_cases h6 : c i = 114
    · rw [exS_r hf h6]; unfold rdW
      split <;> simp
    by_cases h7 : c i = 111
    · rw [exS_o hf h7]; unfold outW
      split <;> simp
    by_cases h8 : c i = 120
    · rw [exS_x hf h8]; simp
    by_cases h9 : c i = 99
    · rw [exS_c hf h9]
      split
      · simp
      · exact ih _ _ _
    rw [exS_no hf h1 h2 h3 h4 h5 h6 h7 h8 h9]; simp

/-- Two runs side by side, of a throw t. -/
def Rel (R : Nat → Nat → Bool) (n nv l : Nat) (V : Nat → Nat) (t : Nat) (a b : RS × Nat) : Prop :=
  (Simi R n nv l V a.1 b.1 ∧ (Le R n t l → a.2 = b.2 ∨ a.2 = 0 ∨ b.2 = 0)) ∨ (a.2 = 0 ∧ seenL R n l a.1.out <+: seenL R n l b.1.out) ∨ (b.2 = 0 ∧ seenL R n l b.1.out <+: seenL R n l a.1.out)

variable {t t1 : Nat} {a b : RS × Nat}
theorem Rel.symm (h : Rel R n nv l V t a b) : Rel R n nv l V t b a := by
  rcases h with ⟨h1, h2⟩ | h | h
  · refine Or.inl ⟨h1.symm, fun hl => ?_⟩
    rcases h2 hl with h | h | h
    · exact Or.inl h.symm
    · exact Or.inr (Or.inr h)
    · exact Or.inr (Or.inl h)
  · exact Or.inr (Or.inr h)
  · exact Or.inr (Or.inl h)
theorem Rel.mono {t' : Nat} (h : Rel R n nv l V t a b) (k : Le R n t' l → Le R n t l) : Rel R n nv l V t' a b := by
  rcases h with ⟨h1, h2⟩ | h | h
  · exact Or.inl ⟨h1, fun hl => h2 (k hl)⟩
  · exact Or.inr (Or.inl h)
  · exact Or.inr (Or.inr h)
theorem Grow.seen {s r : RS} (h : Grow s r) : seenL R n l s.out <+: seenL R n l r.out := by
  obtain ⟨m, e, _⟩ := h.out
  rw [e, seenL_app]
  exact List.prefix_append _ _
theorem Simi.pre {s r q : RS} (h : Simi R n nv l V s r) (g : Grow r q) : seenL R n l s.out <+: seenL R n l q.out := by
  rw [h.out]; exact g.seen
/-- One of them is spent: what it put out is a beginning. -/
theorem Rel.left {s r : RS} {b' : RS × Nat} (h : Simi R n nv l V s r) (g : Grow r b'.1) : Rel R n nv l V t (s, 0) b' := Or.inr (Or.inl ⟨rfl, h.pre g⟩)
theorem Rel.leftP {s r : RS} {b' : RS × Nat} (h : seenL R n l s.out <+: seenL R n l r.out) (g : Grow r b'.1) : Rel R n nv l V t (s, 0) b' := Or.inr (Or.inl ⟨rfl, h.trans g.seen⟩)

theorem thenW_no {e : Nat} {r : RS × Nat} {g : RS → RS × Nat} (h : r.2 ≠ e) : thenW e r g = r := by unfold thenW; rw [if_neg h]
theorem thenW_yes {e : Nat} {r : RS × Nat} {g : RS → RS × Nat} (h : r.2 = e) : thenW e r g = g r.1 := by unfold thenW; rw [if_pos h]
theorem thenW_grow {e : Nat} {r : RS × Nat} {g : RS → RS × Nat} (h : ∀ st, Grow st (g st).1) : Grow r.1 (thenW e r g).1 := by
  unfold thenW; split
  · exact h _
  · exact Grow.refl _
theorem thenW_hi {e : Nat} {r : RS × Nat} {g : RS → RS × Nat} (h : ∀ st, Simi R n nv l V st (g st).1) : Simi R n nv l V r.1 (thenW e r g).1 := by
  unfold thenW; split
  · exact h _
  · exact Simi.refl _
theorem eq_zero {r : RS × Nat} (h : r.2 = 0) : r = (r.1, 0) := Prod.ext rfl h

/-- One after the other. -/
theorem Rel.then {e : Nat} {g1 g2 : RS → RS × Nat} (he : e ≠ 0) (h : Rel R n nv l V t1 a b) (gr1 : ∀ st, Grow st (g1 st).1) (gr2 : ∀ st, Grow st (g2 st).1)
    (both : a.2 = e → b.2 = e → Simi R n nv l V a.1 b.1 → Rel R n nv l V t (g1 a.1) (g2 b.1))
    (hi : ¬ Le R n t1 l → (∀ st, Simi R n nv l V st (g1 st).1) ∧ ∀ st, Simi R n nv l V st (g2 st).1)
    (hend : ¬ Le R n t1 l → Le R n t l → (thenW e a g1).2 = (thenW e b g2).2 ∨ (thenW e a g1).2 = 0 ∨ (thenW e b g2).2 = 0) :
    Rel R n nv l V t (thenW e a g1) (thenW e b g2) := by
  have left : ∀ {a b : RS × Nat} {g1 g2 : RS → RS × Nat}, (∀ st, Grow st (g2 st).1) → a.2 = 0 → seenL R n l a.1.out <+: seenL R n l b.1.out → Rel R n nv l V t (thenW e a g1) (thenW e b g2) := by
    intro a b g1 g2 hg h0 hp
    rw [thenW_no (r := a) (by omega)]
    exact Or.inr (Or.inl ⟨h0, hp.trans (thenW_grow hg).seen⟩)
  rcases h with ⟨h1, h2⟩ | ⟨h1, h2⟩ | ⟨h1, h2⟩
  · by_cases a0 : a.2 = 0
    · exact left gr2 a0 (by rw [h1.out]; exact List.prefix_refl _)
    by_cases b0 : b.2 = 0
    · exact (left gr1 b0 (by rw [h1.out]; exact List.prefix_refl _)).symm
    by_cases hlow : Le R n t1 l
    · have hab : a.2 = b.2 := by
        rcases h2 hlow with h | h | h
        · exact h
        · exact absurd h a0
        · exact absurd h b0
      by_cases hae : a.2 = e
      · rw [thenW_yes hae, thenW_yes (by rw [← hab]; exact hae)]
        exact both hae (by rw [← hab]; exact hae) h1
      · rw [thenW_no hae, thenW_no (by rw [← hab]; exact hae)]
        exact Or.inl ⟨h1, fun _ => Or.inl hab⟩
    · obtain ⟨i1, i2⟩ := hi hlow
      exact Or.inl ⟨(thenW_hi i1).symm.trans (h1.trans (thenW_hi i2)), hend hlow⟩
  · exact left gr2 h1 h2
  · exact (left gr1 h1 h2).symm

theorem setW_rel {s1 s2 : RS} {v : Nat} {x1 x2 : Option Nat} (h : Simi R n nv l V s1 s2) (ha : Le R n (V v) l → x1 = x2) (hD : Le R n t l → (x1 = none ↔ x2 = none)) : Rel R n nv l V t (setW s1 v x1) (setW s2 v x2) := by
  by_cases hv : Le R n (V v) l
  · rw [ha hv]
    cases x2 with
    | none => exact Or.inl ⟨h, fun _ => Or.inl rfl⟩
    | some y =>
      refine Or.inl ⟨⟨fun u hu hl => ?_, h.tk, h.out⟩, fun _ => Or.inl rfl⟩
      simp only [setW, setF]
      split
      · rfl
      · exact h.V u hu hl
  · cases x1 with
    | none => cases x2 with
      | none => exact Or.inl ⟨h, fun _ => Or.inl rfl⟩
      | some y => exact Or.inl ⟨h.trans (Simi.setHi hv _), fun hl => by have := (hD hl).1 rfl; cases this⟩
    | some x => cases x2 with
      | none => exact Or.inl ⟨(Simi.setHi hv _).symm.trans h, fun hl => by have := (hD hl).2 rfl; cases this⟩
      | some y => exact Or.inl ⟨(Simi.setHi hv _).symm.trans (h.trans (Simi.setHi hv _)), fun _ => Or.inl rfl⟩
theorem outW_rel (hln : l < n) {s1 s2 : RS} {d : Nat} {x1 x2 : Option Nat} (h : Simi R n nv l V s1 s2) (ha : Le R n d l → x1 = x2) (hD : Le R n t l → (x1 = none ↔ x2 = none)) : Rel R n nv l V t (outW s1 d x1) (outW s2 d x2) := by
  by_cases hv : Le R n d l
  · rw [ha hv]
    cases x2 with
    | none => exact Or.inl ⟨h, fun _ => Or.inl rfl⟩
    | some y =>
      refine Or.inl ⟨⟨h.V, h.tk, ?_⟩, fun _ => Or.inl rfl⟩
      simp only [outW]
      rw [seenL_app, seenL_app, h.out]
  · have hi : ∀ (s : RS) (y : Nat), Simi R n nv l V s { s with out := s.out ++ [(d, y)] } := fun s y => ⟨fun _ _ _ => rfl, fun _ _ => rfl, (seenL_hi hv hln _).symm⟩
    cases x1 with
    | none => cases x2 with
      | none => exact Or.inl ⟨h, fun _ => Or.inl rfl⟩
      | some y => exact Or.inl ⟨h.trans (hi _ _), fun hl => by have := (hD hl).1 rfl; cases this⟩
    | some x => cases x2 with
      | none => exact Or.inl ⟨(hi _ _).symm.trans h, fun hl => by have := (hD hl).2 rfl; cases this⟩
      | some y => exact Or.inl ⟨(hi _ _).symm.trans (h.trans (hi _ _)), fun _ => Or.inl rfl⟩
theorem rdW_rel {s1 s2 : RS} {d v : Nat} {x1 x2 : Option Nat} (h : Simi R n nv l V s1 s2) (ha : Le R n d l → x1 = x2) (hv : Le R n (V v) l → Le R n d l) (hD : Le R n t l → Le R n d l) : Rel R n nv l V t (rdW s1 d v x1) (rdW s2 d v x2) := by
  by_cases hd : Le R n d l
  · rw [ha hd]
    cases x2 with
    | none => exact Or.inl ⟨h, fun _ => Or.inl rfl⟩
    | some y =>
      refine Or.inl ⟨⟨fun u hu hl => ?_, fun u hu => ?_, h.out⟩, fun _ => Or.inl rfl⟩
      · simp only [rdW, setF]
        split
        · rfl
        · exact h.V u hu hl
      · simp only [rdW, setF]
        split
        · rw [h.tk d hd]
        · exact h.tk u hu
  · have hi : ∀ (s : RS) (y : Nat), Simi R n nv l V s { s with V := setF s.V v y, tk := setF s.tk d (s.tk d + 1) } := fun s y =>
      (Simi.setHi (fun h => hd (hv h)) s).trans ⟨fun _ _ _ => rfl, fun u hu => by
        show s.tk u = setF s.tk d (s.tk d + 1) u
        unfold setF
        split
        · rename_i e; rw [e] at hu; exact absurd hu hd
        · rfl, rfl⟩
    have hno : ∀ {q : Prop}, Le R n t l → q := fun h => absurd (hD h) hd
    cases x1 with
    | none => cases x2 with
      | none => exact Or.inl ⟨h, hno⟩
      | some y => exact Or.inl ⟨h.trans (hi _ _), hno⟩
    | some x => cases x2 with
      | none => exact Or.inl ⟨(hi _ _).symm.trans h, hno⟩
      | some y => exact Or.inl ⟨(hi _ _).symm.trans (h.trans (hi _ _)), hno⟩

/-- A loop in step. -/
theorem lpW_rel {run1 run2 : RS → RS × Nat} {ev : (Nat → Nat) → Option Nat} (g1 : ∀ st, Grow st (run1 st).1) (g2 : ∀ st, Grow st (run2 st).1) (hq : Le R n t l)
    (hev : ∀ s1 s2, Simi R n nv l V s1 s2 → ev s1.V = ev s2.V) (hrun : ∀ s1 s2, Simi R n nv l V s1 s2 → Rel R n nv l V t (run1 s1) (run2 s2)) :
    ∀ g s1 s2, Simi R n nv l V s1 s2 → Rel R n nv l V t (lpW run1 ev g s1) (lpW run2 ev g s2) := by
  intro g
  induction g with
  | zero =>
    intro s1 s2 h
    simp only [lpW]
    rw [hev s1 s2 h]
    cases ev s2.V with
    | none => exact Or.inl ⟨h, fun _ => Or.inl rfl⟩
    | some y =>
      by_cases hy : y = 0
      · simp only [hy, if_true]; exact Or.inl ⟨h, fun _ => Or.inl rfl⟩
      · simp only [hy, if_false]
        have hr := hrun s1 s2 h
        rcases hr with ⟨h1, h2⟩ | ⟨h1, h2⟩ | ⟨h1, h2⟩
        · by_cases a0 : (run1 s1).2 = 0
          · rw [if_neg (by omega)]
            refine Or.inr (Or.inl ⟨a0, ?_⟩)
            split <;> (rw [h1.out]; exact List.prefix_refl _)
          by_cases b0 : (run2 s2).2 = 0
          · rw [if_neg (c := (run2 s2).2 = 1) (by omega)]
            refine Or.inr (Or.inr ⟨b0, ?_⟩)
            split <;> (rw [h1.out]; exact List.prefix_refl _)
          have hab : (run1 s1).2 = (run2 s2).2 := by
            rcases h2 hq with h | h | h
            · exact h
            · exact absurd h a0
            · exact absurd h b0
          rw [hab]
          split
          · exact Or.inl ⟨h1, fun _ => Or.inl rfl⟩
          · exact Or.inl ⟨h1, fun _ => Or.inl hab⟩
        · rw [if_neg (by omega)]
          refine Or.inr (Or.inl ⟨h1, ?_⟩)
          split <;> exact h2
        · rw [if_neg (c := (run2 s2).2 = 1) (by omega)]
          refine Or.inr (Or.inr ⟨h1, ?_⟩)
          split <;> exact h2
  | succ g ih =>
    intro s1 s2 h
    have grow1 : ∀ s, Grow (run1 s).1 (if (run1 s).2 = 1 then (if (run1 s).1.fuel = 0 then ((run1 s).1, 0) else lpW run1 ev g { (run1 s).1 with fuel := (run1 s).1.fuel - 1 }) else run1 s).1 := by
      intro s
      split
      · split
        · exact Grow.refl _
        · exact (Grow.dec _).trans (lpW_grow g1 _ _)
      · exact Grow.refl _
    have grow2 : ∀ s, Grow (run2 s).1 (if (run2 s).2 = 1 then (if (run2 s).1.fuel = 0 then ((run2 s).1, 0) else lpW run2 ev g { (run2 s).1 with fuel := (run2 s).1.fuel - 1 }) else run2 s).1 := by
      intro s
      split
      · split
        · exact Grow.refl _
        · exact (Grow.dec _).trans (lpW_grow g2 _ _)
      · exact Grow.refl _
    simp only [lpW]
    rw [hev s1 s2 h]
    cases ev s2.V with
    | none => exact Or.inl ⟨h, fun _ => Or.inl rfl⟩
    | some y =>
      by_cases hy : y = 0
      · simp only [hy, if_true]; exact Or.inl ⟨h, fun _ => Or.inl rfl⟩
      · simp only [hy, if_false]
        have hr := hrun s1 s2 h
        have gg1 := grow1 s1
        have gg2 := grow2 s2
        rcases hr with ⟨h1, h2⟩ | ⟨h1, h2⟩ | ⟨h1, h2⟩
        · by_cases a0 : (run1 s1).2 = 0
          · refine Or.inr (Or.inl ⟨by rw [if_neg (by omega)]; exact a0, ?_⟩)
            rw [if_neg (by omega)]
            exact h1.pre gg2
          by_cases b0 : (run2 s2).2 = 0
          · refine Or.inr (Or.inr ⟨by rw [if_neg (by omega)]; exact b0, ?_⟩)
            rw [if_neg (c := (run2 s2).2 = 1) (by omega)]
            exact h1.symm.pre gg1
          have hab : (run1 s1).2 = (run2 s2).2 := by
            rcases h2 hq with h | h | h
            · exact h
            · exact absurd h a0
            · exact absurd h b0
          by_cases e1 : (run2 s2).2 = 1
          · rw [if_pos e1] at gg2
            rw [if_pos (hab.trans e1)] at gg1
            rw [if_pos e1, if_pos (hab.trans e1)]
            by_cases f1 : (run1 s1).1.fuel = 0
            · rw [if_pos f1]
              exact Or.inr (Or.inl ⟨rfl, h1.pre gg2⟩)
            by_cases f2 : (run2 s2).1.fuel = 0
            · rw [if_pos f2]
              exact Or.inr (Or.inr ⟨rfl, h1.symm.pre gg1⟩)
            rw [if_neg f1, if_neg f2]
            exact ih _ _ ⟨h1.V, h1.tk, h1.out⟩
          · rw [if_neg e1, if_neg (by rw [hab]; exact e1)]
            exact Or.inl ⟨h1, fun _ => Or.inl hab⟩
        · refine Or.inr (Or.inl ⟨by rw [if_neg (by omega)]; exact h1, ?_⟩)
          rw [if_neg (by omega)]
          exact h2.trans gg2.seen
        · refine Or.inr (Or.inr ⟨by rw [if_neg (by omega)]; exact h1, ?_⟩)
          rw [if_neg (c := (run2 s2).2 = 1) (by omega)]
          exact h2.trans gg1.seen
/-- A loop that throws at once or not at all. -/
theorem lpW_calm2 {run : RS → RS × Nat} {ev : (Nat → Nat) → Option Nat} (h : ∀ st, (run st).2 ≠ 2) (hs : ∀ st, Simi R n nv l V st (run st).1)
    (he : ∀ s1 s2, Simi R n nv l V s1 s2 → ev s1.V ≠ none → ev s2.V ≠ none) : ∀ g st, ev st.V ≠ none → (lpW run ev g st).2 ≠ 2 := by
  intro g
  induction g with
  | zero =>
    intro st hn
    simp only [lpW]
    split
    · rename_i e; exact absurd e hn
    · split
      · simp
      · split
        · simp
        · exact h st
  | succ g ih =>
    intro st hn
    simp only [lpW]
    split
    · rename_i e; exact absurd e hn
    · split
      · simp
      · split
        · split
          · simp
          · exact ih _ (he st _ ((hs st).trans (Simi.dec _)) hn)
        · exact h st
end

end Go.Proofs.Ytfcflnnleadpkaa

namespace Go.Proofs.Ytfcflnnleadpkaa

/-- More fuel. -/
def addF (st : RS) (x : Nat) : RS := { st with fuel := st.fuel + x }
/-- A run, and one with x more fuel. -/
def More (x : Nat) (r r' : RS × Nat) : Prop := (r.2 ≠ 0 ∧ r' = (addF r.1 x, r.2)) ∨ (r.2 = 0 ∧ r.1.out <+: r'.1.out)

section
variable {c : Nat → Int} {nv n np : Nat} {inp inp1 inp2 : Nat → List Nat} {P : Nat → Nat} {F x : Nat}

theorem Grow.pre {a b : RS} (h : Grow a b) : a.out <+: b.out := by
  obtain ⟨l, e, _⟩ := h.out
  rw [e]; exact List.prefix_append _ _
theorem More.then {e : Nat} {a b : RS × Nat} {g : RS → RS × Nat} (he : e ≠ 0) (h : More x a b) (gr : ∀ st, Grow st (g st).1) (hg : a.2 = e → More x (g a.1) (g (addF a.1 x))) : More x (thenW e a g) (thenW e b g) := by
  rcases h with ⟨h0, rfl⟩ | ⟨h0, h1⟩
  · by_cases h2 : a.2 = e
    · rw [thenW_yes h2, thenW_yes (r := (addF a.1 x, a.2)) h2]; exact hg h2
    · rw [thenW_no h2, thenW_no (r := (addF a.1 x, a.2)) h2]; exact Or.inl ⟨h0, rfl⟩
  · rw [thenW_no (r := a) (by omega)]
    exact Or.inr ⟨h0, h1.trans (thenW_grow gr).pre⟩
theorem dec_add {st : RS} (h : st.fuel ≠ 0) : dec (addF st x) = addF (dec st) x := by
  unfold dec addF
  simp only
  congr 1
  omega
theorem addF_fuel {st : RS} (h : st.fuel ≠ 0) : (addF st x).fuel ≠ 0 := by
  show st.fuel + x ≠ 0
  omega

theorem lpW_more {run : RS → RS × Nat} {ev : (Nat → Nat) → Option Nat} {G : Nat} (gr : ∀ st, Grow st (run st).1) (h : ∀ st, st.fuel + x ≤ G → More x (run st) (run (addF st x))) :
    ∀ g st, g ≤ G → st.fuel + x ≤ g → More x (lpW run ev g st) (lpW run ev g (addF st x)) := by
  intro g
  induction g with
  | zero =>
    intro st _ hg
    have hx : x = 0 := by omega
    subst hx
    have e : addF st 0 = st := rfl
    rw [e]
    by_cases h0 : (lpW run ev 0 st).2 = 0
    · exact Or.inr ⟨h0, List.prefix_refl _⟩
    · exact Or.inl ⟨h0, rfl⟩
  | succ g ih =>
    intro st hG hg
    have hr := h st (by omega)
    have hgr := gr st
    simp only [lpW]
    have ev1 : ev (addF st x).V = ev st.V := rfl
    rw [ev1]
    cases ev st.V with
    | none => exact Or.inl ⟨by simp, rfl⟩
    | some y =>
      by_cases hy : y = 0
      · simp only [hy, if_true]; exact Or.inl ⟨by simp, rfl⟩
      · simp only [hy, if_false]
        rcases hr with ⟨h0, h1⟩ | ⟨h0, h1⟩
        · rw [h1]
          by_cases e1 : (run st).2 = 1
          · simp only [e1, if_true]
            by_cases f0 : (run st).1.fuel = 0
            · rw [if_pos f0]
              refine Or.inr ⟨rfl, ?_⟩
              have p0 : (run st).1.out <+: (addF (run st).1 x).out := List.prefix_refl _
              split
              · exact p0
              · exact p0.trans ((Grow.dec _).trans (lpW_grow gr _ _)).pre
            · rw [if_neg f0, if_neg (addF_fuel f0)]
              have := ih { (run st).1 with fuel := (run st).1.fuel - 1 } (by omega) (by have := hgr.fuel; simp only; omega)
              have e2 : addF { (run st).1 with fuel := (run st).1.fuel - 1 } x = { addF (run st).1 x with fuel := (addF (run st).1 x).fuel - 1 } := (dec_add f0).symm
              rw [e2] at this
              exact this
          · simp only [e1, if_false]
            exact Or.inl ⟨h0, rfl⟩
        · rw [if_neg (c := (run st).2 = 1) (by omega)]
          refine Or.inr ⟨h0, ?_⟩
          split
          · split
            · exact h1
            · exact h1.trans ((Grow.dec _).trans (lpW_grow gr _ _)).pre
          · exact h1

/-- With more fuel a run that ended is the same; one that did not goes on. -/
theorem exS_more : ∀ (g i k : Nat) (st : RS), st.fuel + x ≤ g → More x (exS c inp P F g i k st) (exS c inp P F g i k (addF st x)) := by
  intro g
  induction g with
  | zero =>
    intro i k st hg
    have hx : x = 0 := by omega
    subst hx
    exact Or.inr ⟨rfl, List.prefix_refl _⟩
  | succ g ih =>
    intro i k st hg
    have gr : ∀ (g i k : Nat) (st : RS), Grow st (exS c inp P F g i k st).1 := fun g i k st => exS_grow g i k st
    by_cases hf : st.fuel = 0
    · rw [exS_spent hf]
      have p0 : st.out <+: (addF st x).out := List.prefix_refl _
      exact Or.inr ⟨rfl, p0.trans (gr _ _ _ _).pre⟩
    have hf2 := addF_fuel (x := x) hf
    have hd := dec_add (x := x) hf
    have hdf : (dec st).fuel + x ≤ g := by show st.fuel - 1 + x ≤ g; omega
    by_cases h1 : c i = 44
    · rw [exS_seq hf h1, exS_seq hf2 h1, hd]
      exact (ih _ _ _ hdf).then (by omega) (fun st => gr _ _ _ st) (fun _ => ih _ _ _ (by have := (gr g (i + 1) k (dec st)).fuel; omega))
    by_cases h2 : c i = 116
    · rw [exS_t hf h2, exS_t hf2 h2, hd]
      exact (ih _ _ _ hdf).then (by omega) (fun st => gr _ _ _ st) (fun _ => ih _ _ _ (by have := (gr g (i + 1) k (dec st)).fuel; omega))
    by_cases h3 : c i = 61
    · rw [exS_eq hf h3, exS_eq hf2 h3, hd]
      show More x (setW (dec st) _ (evE c st.V F (i + 2))) (setW (addF (dec st) x) _ (evE c st.V F (i + 2)))
      cases evE c st.V F (i + 2) with
      | none => exact Or.inl ⟨by simp [setW], rfl⟩
      | some y => exact Or.inl ⟨by simp [setW], rfl⟩
    by_cases h4 : c i = 105
    · rw [exS_i hf h4, exS_i hf2 h4, hd]
      show More x (ifW (dec st) (evE c st.V F (i + 1)) _ _) (ifW (addF (dec st) x) (evE c st.V F (i + 1)) _ _)
      cases evE c st.V F (i + 1) with
      | none => exact Or.inl ⟨by simp [ifW], rfl⟩
      | some y =>
        simp only [ifW]
        split
        · exact ih _ _ _ hdf
        · exact ih _ _ _ hdf
    by_cases h5 : c i = 119
    · rw [exS_w hf h5, exS_w hf2 h5, hd]
      exact lpW_more (fun st => gr _ _ _ st) (fun st h => ih _ _ st h) g _ (Nat.le_refl _) hdf
    by_cases h6 : c i = 114
    · rw [exS_r hf h6, exS_r hf2 h6, hd]
      show More x (rdW (dec st) _ _ ((inp (c (i + 1) - 48).toNat)[st.tk (c (i + 1) - 48).toNat]?)) (rdW (addF (dec st) x) _ _ ((inp (c (i + 1) - 48).toNat)[st.tk (c (i + 1) - 48).toNat]?))
      cases (inp (c (i + 1) - 48).toNat)[st.tk (c (i + 1) - 48).toNat]? with
      | none => exact Or.inl ⟨by simp [rdW], rfl⟩
      | some y => exact Or.inl ⟨by simp [rdW], rfl⟩
    by_cases h7 : c i = 111
    · rw [exS_o hf h7, exS_o hf2 h7, hd]
      show More x (outW (dec st) _ (evE c st.V F (i + 2))) (outW (addF (dec st) x) _ (evE c st.V F (i + 2)))
      cases evE c st.V F (i + 2) with
      | none => exact Or.inl ⟨by simp [outW], rfl⟩
      | some y => exact Or.inl ⟨by simp [outW], rfl⟩
    by_cases h8 : c i = 120
    · rw [exS_x hf h8, exS_x hf2 h8, hd]; exact Or.inl ⟨by simp, rfl⟩
    by_cases h9 : c i = 99
    · rw [exS_c hf h9, exS_c hf2 h9, hd]
      split
      · exact Or.inl ⟨by simp, rfl⟩
      · exact ih _ _ _ hdf
    rw [exS_no hf h1 h2 h3 h4 h5 h6 h7 h8 h9, exS_no hf2 h1 h2 h3 h4 h5 h6 h7 h8 h9, hd]; exact Or.inl ⟨by simp, rfl⟩

/-- The inputs are the same as far as a run can take. -/
def Heard (inp1 inp2 : Nat → List Nat) (st : RS) : Prop := ∀ d j, j < st.tk d + st.fuel → (inp1 d)[j]? = (inp2 d)[j]?
theorem Heard.grow {a b : RS} (h : Heard inp1 inp2 a) (g : Grow a b) : Heard inp1 inp2 b := fun d j hj => h d j (by have := (g.tk d).2; omega)
theorem lpW_deaf {run1 run2 : RS → RS × Nat} {ev : (Nat → Nat) → Option Nat} (gr : ∀ st, Grow st (run1 st).1) (h : ∀ st, Heard inp1 inp2 st → run1 st = run2 st) : ∀ g st, Heard inp1 inp2 st → lpW run1 ev g st = lpW run2 ev g st := by
  intro g
  induction g with
  | zero => intro st hs; simp only [lpW]; rw [h st hs]
  | succ g ih =>
    intro st hs
    have h2 := h st hs
    have h3 := ih { (run1 st).1 with fuel := (run1 st).1.fuel - 1 } (hs.grow ((gr st).trans (Grow.dec _)))
    simp only [lpW]
    rw [h3, h2]
/-- What a run cannot take is not looked at. -/
theorem exS_deaf : ∀ (g i k : Nat) (st : RS), Heard inp1 inp2 st → exS c inp1 P F g i k st = exS c inp2 P F g i k st := by
  intro g
  induction g with
  | zero => intro i k st _; rfl
  | succ g ih =>
    intro i k st hs
    have gr : ∀ (g i k : Nat) (st : RS), Grow st (exS c inp1 P F g i k st).1 := fun g i k st => exS_grow g i k st
    by_cases hf : st.fuel = 0
    · rw [exS_spent hf, exS_spent hf]
    have hd := hs.grow (Grow.dec st)
    have hthen : ∀ (e m : Nat), thenW e (exS c inp1 P F g (i + 1) k (dec st)) (exS c inp1 P F g m k) = thenW e (exS c inp2 P F g (i + 1) k (dec st)) (exS c inp2 P F g m k) := by
      intro e m
      have h2 := ih m k (exS c inp1 P F g (i + 1) k (dec st)).1 (hd.grow (gr _ _ _ _))
      unfold thenW
      rw [h2, ih (i + 1) k (dec st) hd]
    by_cases h1 : c i = 44
    · rw [exS_seq hf h1, exS_seq hf h1]; exact hthen _ _
    by_cases h2 : c i = 116
    · rw [exS_t hf h2, exS_t hf h2]; exact hthen _ _
    by_cases h3 : c i = 61
    · rw [exS_eq hf h3, exS_eq hf h3]
    by_cases h4 : c i = 105
    · rw [exS_i hf h4, exS_i hf h4]
      unfold ifW
      rw [ih _ k (dec st) hd, ih _ k (dec st) hd]
    by_cases h5 : c i = 119
    · rw [exS_w hf h5, exS_w hf h5]; exact lpW_deaf (fun st => gr _ _ _ st) (fun st h => ih _ _ st h) g _ hd
    by_cases h6 : c i = 114
    · rw [exS_r hf h6, exS_r hf h6, hs _ _ (by omega)]
    by_cases h7 : c i = 111
    · rw [exS_o hf h7, exS_o hf h7]
    by_cases h8 : c i = 120
    · rw [exS_x hf h8, exS_x hf h8]
    by_cases h9 : c i = 99
    · rw [exS_c hf h9, exS_c hf h9, ih _ _ (dec st) hd]
    rw [exS_no hf h1 h2 h3 h4 h5 h6 h7 h8 h9, exS_no hf h1 h2 h3 h4 h5 h6 h7 h8 h9]

theorem opV_lt {o : Int} {a b y : Nat} (ha : a < 65536) (h : opV o a b = some y) : y < 65536 := by
  unfold opV at h
  split at h
  · injection h with h; omega
  split at h
  · injection h with h; omega
  split at h
  · injection h with h; omega
  split at h
  · split at h
    · cases h
    · injection h with h
      have := Nat.div_le_self a b
      omega
  · injection h with h
    split at h <;> omega
theorem evE_lt {U : Nat → Nat} (hU : ∀ v, U v < 65536) : ∀ f i y, evE c U f i = some y → y < 65536 := by
  intro f
  induction f with
  | zero => intro i y h; simp [evE] at h
  | succ f ih =>
    intro i y h
    cases ho : isOp (c i)
    · cases h2 : isDB (c i) 10
      · rw [evE_var ho h2] at h; injection h with h; rw [← h]; exact hU _
      · rw [evE_dig ho h2] at h; injection h with h
        have := (isDB_iff _ _).1 h2
        omega
    · rw [evE_op ho] at h
      cases ea : evE c U f (i + 1) with
      | none => rw [ea] at h; cases h
      | some a =>
        rw [ea] at h
        cases eb : evE c U f (skE c f (i + 1)) with
        | none => rw [eb] at h; cases h
        | some b =>
          rw [eb] at h
          exact opV_lt (ih _ _ ea) h
/-- Numbers are below 65536, and what is put out is at levels. -/
structure Sane (n : Nat) (st : RS) : Prop where
  V : ∀ v, st.V v < 65536
  out : ∀ e ∈ st.out, e.1 < n ∧ e.2 < 65536
theorem Sane.set {st : RS} (h : Sane n st) {v y : Nat} (hy : y < 65536) : Sane n { st with V := setF st.V v y } := by
  refine ⟨fun u => ?_, h.out⟩
  show setF st.V v y u < 65536
  unfold setF
  split
  · exact hy
  · exact h.V u
theorem lpW_sane {run : RS → RS × Nat} {ev : (Nat → Nat) → Option Nat} (h : ∀ st, Sane n st → Sane n (run st).1) : ∀ g st, Sane n st → Sane n (lpW run ev g st).1 := by
  intro g
  induction g with
  | zero =>
    intro st hs
    simp only [lpW]
    split
    · exact hs
    · split
      · exact hs
      · split
        · exact h st hs
        · exact h st hs
  | succ g ih =>
    intro st hs
    simp only [lpW]
    split
    · exact hs
    · split
      · exact hs
      · split
        · split
          · exact h st hs
          · exact ih _ ⟨(h st hs).V, (h st hs).out⟩
        · exact h st hs
theorem exS_sane (hi : ∀ d x, x ∈ inp d → x < 65536) (hP : ∀ k, k < np → ∃ j, wfS c nv n np F (P k) = (j, false)) : ∀ (g f i j k : Nat) (st : RS), wfS c nv n np f i = (j, false) → f ≤ F → Sane n st → Sane n (exS c inp P F g i k st).1 := by
  intro g
  induction g with
  | zero => intro f i j k st _ _ h; exact h
  | succ g ih =>
    intro f i j k st h hF hs
    by_cases hf : st.fuel = 0
    · rw [exS_spent hf]; exact hs
    have hd : Sane n (dec st) := ⟨hs.V, hs.out⟩
    cases f with
    | zero => simp [wfS] at h
    | succ f =>
      rcases wfS_letter h with hc | hc | hc | hc | hc | hc | hc | hc
      · rcases hc with hc | hc
        · rw [exS_no hf (by omega) (by omega) (by omega) (by omega) (by omega) (by omega) (by omega) (by omega) (by omega)]; exact hd
        · rw [exS_x hf hc]; exact hd
      · obtain ⟨m, e1, e2⟩ := wfS_inv_seq h hc
        have hsk := skS_of f (i + 1) m F e1 (by omega)
        have s1 := ih f (i + 1) m k (dec st) e1 (by omega) hd
        have s2 := ih f m j k _ e2 (by omega) s1
        rcases hc with hc | hc
        · rw [exS_seq hf hc, hsk]
          unfold thenW
          split
          · exact s2
          · exact s1
        · rw [exS_t hf hc, hsk]
          unfold thenW
          split
          · exact s2
          · exact s1
      · rw [exS_eq hf hc]
        cases e : evE c st.V F (i + 2) with
        | none => exact hd
        | some y => exact hd.set (evE_lt hs.V _ _ _ e)
      · obtain ⟨m, q, e1, e2, e3⟩ := wfS_inv_i h hc
        rw [exS_i hf hc, skE_of f _ _ F e1 (by omega), skS_of f _ _ F e2 (by omega)]
        unfold ifW
        split
        · exact hd
        · split
          · exact ih f q j k _ e3 (by omega) hd
          · exact ih f m q k _ e2 (by omega) hd
      · obtain ⟨m, e1, e2⟩ := wfS_inv_w h hc
        rw [exS_w hf hc, skE_of f _ _ F e1 (by omega)]
        exact lpW_sane (fun st hs => ih f m j k st e2 (by omega) hs) _ _ hd
      · rw [exS_r hf hc]
        cases e : (inp (c (i + 1) - 48).toNat)[st.tk (c (i + 1) - 48).toNat]? with
        | none => exact hd
        | some y =>
          have := hd.set (v := (c (i + 2) - 97).toNat) (hi _ _ (List.mem_of_getElem? e))
          exact ⟨this.V, this.out⟩
      · obtain ⟨e1, e2⟩ := wfS_inv_o h hc
        obtain ⟨x, ex, hx⟩ := isDB_nat e1
        rw [exS_o hf hc, ex]
        cases e : evE c st.V F (i + 2) with
        | none => exact hd
        | some y =>
          refine ⟨hd.V, fun z hz => ?_⟩
          rcases List.mem_append.1 hz with hz | hz
          · exact hd.out z hz
          · rw [List.mem_singleton.1 hz]; exact ⟨hx, evE_lt hs.V _ _ _ e⟩
      · obtain ⟨e1, rfl⟩ := wfS_inv_c h hc
        obtain ⟨x, ex, hx⟩ := isDB_nat e1
        obtain ⟨j', w1⟩ := hP x hx
        rw [exS_c hf hc, ex]
        split
        · exact hd
        · exact ih F _ j' _ _ w1 (Nat.le_refl _) hd
end

end Go.Proofs.Ytfcflnnleadpkaa

namespace Go.Proofs.Ytfcflnnleadpkaa
open Go.RowKit

/-- The cells of what was put out. -/
def evC (es : List (Nat × Nat)) : List Value := es.flatMap (fun e => [.int .i64 (e.1 : Int), .int .i64 (e.2 : Int)])
theorem evC_len (es : List (Nat × Nat)) : (evC es).length = es.length * 2 := by
  induction es with
  | nil => rfl
  | cons e es ih =>
    have h : evC (e :: es) = [.int .i64 (e.1 : Int), .int .i64 (e.2 : Int)] ++ evC es := rfl
    rw [h, List.length_append, ih]; simp; omega
theorem evC_app (es fs : List (Nat × Nat)) : evC (es ++ fs) = evC es ++ evC fs := by unfold evC; rw [List.flatMap_append]

/-- The inputs in memory: what each level's list comes to. -/
def InpR (w : World) (iv : Value) (n : Nat) (inp : Nat → List Nat) : Prop :=
  ∃ a len cap, iv = .slice a len cap ∧ ∀ d, d < n → (d < len → ∃ (ad : Addr) (ra : Option Addr) (rl rc : Nat) (Z : Nat → Int), a = some ad ∧ w.cell? (ad.add d) = some (.slice ra rl rc) ∧ (∀ j, j < rl → ∃ rad, ra = some rad ∧ w.cell? (rad.add j) = some (.int .i64 (Z j))) ∧ inp d = (List.range rl).map (fun j => (Z j % 65536).toNat)) ∧ (len ≤ d → inp d = [])
theorem InpR.below {w w' : World} {iv : Value} {n : Nat} {inp : Nat → List Nat} (h : InpR w iv n inp) (hb : Below w.heap.size w w') : InpR w' iv n inp := by
  obtain ⟨a, len, cap, rfl, h⟩ := h
  refine ⟨a, len, cap, rfl, fun d hd => ⟨fun hl => ?_, (h d hd).2⟩⟩
  obtain ⟨ad, ra, rl, rc, Z, e1, c1, c2, e2⟩ := (h d hd).1 hl
  refine ⟨ad, ra, rl, rc, Z, e1, (World.cell?_of_block (w := w) (hb.block _ (World.block_lt_of_cell? w _ c1))).trans c1, fun j hj => ?_, e2⟩
  obtain ⟨rad, e3, c3⟩ := c2 j hj
  exact ⟨rad, e3, (World.cell?_of_block (w := w) (hb.block _ (World.block_lt_of_cell? w _ c3))).trans c3⟩

theorem ownsRow_keep2 {w w' : World} {B n sz : Nat} {e : TypeId} {l : Value} {xs : List Value} (h : w.ownsRow B e sz l n xs) (hb : ∀ g, l.ownBlock = some g → w'.heap[g]? = w.heap[g]?) : w'.ownsRow B e sz l n xs := by
  refine ⟨h.1, ?_⟩
  rcases h.2 with hn | ⟨g, cap, cur, rfl, hb0, hg, rest⟩
  · exact Or.inl hn
  · exact Or.inr ⟨g, cap, cur, rfl, hb0, (hb g rfl).trans hg, rest⟩

def tupV (x : Option Nat) : Value := match x with
  | none => .tuple #[.int .i64 0, .bool false]
  | some v => .tuple #[.int .i64 (v : Int), .bool true]
theorem opV_add {a b : Nat} : opV 43 a b = some ((a + b) % 65536) := rfl
theorem opV_sub {a b : Nat} : opV 45 a b = some ((a + 65536 - b) % 65536) := rfl
theorem opV_mul {a b : Nat} : opV 42 a b = some (a * b % 65536) := rfl
theorem opV_div0 {a : Nat} : opV 47 a 0 = none := rfl
theorem opV_div {a b : Nat} (h : b ≠ 0) : opV 47 a b = some (a / b) := by
  have : opV 47 a b = if b = 0 then none else some (a / b) := rfl
  rw [this, if_neg h]
theorem opV_lt1 {a b : Nat} (h : a < b) : opV 60 a b = some 1 := by
  have : opV 60 a b = some (if a < b then 1 else 0) := rfl
  rw [this, if_pos h]
theorem opV_lt0 {a b : Nat} (h : ¬ a < b) : opV 60 a b = some 0 := by
  have : opV 60 a b = some (if a < b then 1 else 0) := rfl
  rw [this, if_neg h]
theorem tmod_nat (m : Nat) : ((m : Int)).tmod 65536 = ((m % 65536 : Nat) : Int) := by
  rw [show (65536 : Int) = ((65536 : Nat) : Int) from rfl, ← Int.ofNat_tmod]
theorem isOp_five {x : Int} (h : isOp x = true) : x = 43 ∨ x = 45 ∨ x = 42 ∨ x = 47 ∨ x = 60 := by
  unfold isOp at h
  simp at h
  omega

theorem mod_neg {x : Int} (h : x.tmod 65536 < 0) : x.tmod 65536 + 65536 = x % 65536 := by
  rw [Int.tmod_eq_emod] at h ⊢
  have e : Int.natAbs 65536 = 65536 := rfl
  by_cases h1 : 0 ≤ x ∨ (65536 : Int) ∣ x
  · rw [if_pos h1] at h ⊢; omega
  · rw [if_neg h1] at h ⊢; omega
theorem mod_pos {x : Int} (h : ¬ x.tmod 65536 < 0) : x.tmod 65536 = x % 65536 := by
  rw [Int.tmod_eq_emod] at h ⊢
  have e : Int.natAbs 65536 = 65536 := rfl
  by_cases h1 : 0 ≤ x ∨ (65536 : Int) ∣ x
  · rw [if_pos h1] at h ⊢; omega
  · rw [if_neg h1] at h ⊢; omega

def mdV (x : Int) : Nat := (x % 65536).toNat
theorem mdV_eq (x : Int) : (mdV x : Int) = x % 65536 := by unfold mdV; omega
/-- The states of a run. -/
structure RunI (n : Nat) (st : RS) : Prop where
  sane : Sane n st
  out : st.out.length + st.fuel ≤ 10000
  tk : ∀ d, st.tk d + st.fuel ≤ 10000
theorem InpR.lt {w : World} {iv : Value} {n : Nat} {inp : Nat → List Nat} (h : InpR w iv n inp) : ∀ d, d < n → ∀ x, x ∈ inp d → x < 65536 := by
  obtain ⟨a, len, cap, rfl, h⟩ := h
  intro d hd x hx
  rcases Nat.lt_or_ge d len with hl | hl
  · obtain ⟨ad, ra, rl, rc, Z, _, _, _, e2⟩ := (h d hd).1 hl
    rw [e2] at hx
    obtain ⟨j, _, rfl⟩ := List.mem_map.1 hx
    omega
  · rw [(h d hd).2 hl] at hx; simp at hx

section
variable {n : Nat} {st : RS}
theorem RunI.of (h : RunI n st) {r : RS} (hs : Sane n r) (hg : Grow st r) : RunI n r := by
  refine ⟨hs, ?_, fun d => ?_⟩
  · obtain ⟨l, e, hl⟩ := hg.out
    have := h.out
    rw [e, List.length_append]; omega
  · have := h.tk d
    have := (hg.tk d).2
    omega
theorem RunI.dec (h : RunI n st) : RunI n (Go.Proofs.Ytfcflnnleadpkaa.dec st) := h.of ⟨h.sane.V, h.sane.out⟩ (Grow.dec st)
theorem lpW_none {run : RS → RS × Nat} {ev : (Nat → Nat) → Option Nat} {n : Nat} (h : ev st.V = none) : lpW run ev n st = (st, 2) := by cases n <;> (simp only [lpW]; rw [h])
theorem lpW_zero {run : RS → RS × Nat} {ev : (Nat → Nat) → Option Nat} {n : Nat} (h : ev st.V = some 0) : lpW run ev n st = (st, 1) := by cases n <;> (simp only [lpW]; rw [h]; rfl)
theorem lpW_stop {run : RS → RS × Nat} {ev : (Nat → Nat) → Option Nat} {n y : Nat} (h : ev st.V = some y) (hy : y ≠ 0) (hr : (run st).2 ≠ 1) : lpW run ev n st = run st := by
  cases n <;> (simp only [lpW]; rw [h]; simp only; rw [if_neg hy, if_neg hr])
theorem lpW_spent {run : RS → RS × Nat} {ev : (Nat → Nat) → Option Nat} {n y : Nat} (h : ev st.V = some y) (hy : y ≠ 0) (hr : (run st).2 = 1) (hf : (run st).1.fuel = 0) : lpW run ev n st = ((run st).1, 0) := by
  cases n with
  | zero => simp only [lpW]; rw [h]; simp only; rw [if_neg hy, if_pos hr]
  | succ n => simp only [lpW]; rw [h]; simp only; rw [if_neg hy, if_pos hr, if_pos hf]
theorem lpW_go {run : RS → RS × Nat} {ev : (Nat → Nat) → Option Nat} {n y : Nat} (h : ev st.V = some y) (hy : y ≠ 0) (hr : (run st).2 = 1) (hf : (run st).1.fuel ≠ 0) : lpW run ev (n + 1) st = lpW run ev n { (run st).1 with fuel := (run st).1.fuel - 1 } := by
  simp only [lpW]; rw [h]; simp only; rw [if_neg hy, if_pos hr, if_neg hf]

end
theorem thenR {e : Nat} {r : RS × Nat} {g : RS → RS × Nat} : thenW e r g = if r.2 = e then g r.1 else r := rfl

/-- A whole run. -/
def ecR (E : Env) (inp : Nat → List Nat) (fuel : Nat) : RS × Nat := exS (bt E.s) inp (fun k => (E.P k).toNat) (E.s.size + 1) 10000 E.main 0 ⟨fun _ => 0, fun _ => 0, [], fuel⟩

theorem sane0 {n fuel : Nat} (hf : fuel ≤ 10000) : RunI n ⟨fun _ => 0, fun _ => 0, [], fuel⟩ := ⟨⟨fun _ => by show 0 < 65536; omega, fun e he => by simp at he⟩, by simpa using hf, fun d => by simpa using hf⟩


end Go.Proofs.Ytfcflnnleadpkaa

namespace Go.Proofs.Ytfcflnnleadpkaa
open Go.RowKit
variable {w w' : World}

/-- A slice of m events, wherever it lies. -/
def SlE (w : World) (v : Value) (m : Nat) (L : Nat → Int × Int) : Prop := ∃ a cap, v = .slice a m cap ∧ (a = none → m = 0 ∧ cap = 0) ∧ ∀ i, i < m → ∃ ad : Addr, a = some ad ∧ w.cell? (ad.add (i * 2)) = some (.int .i64 (L i).1) ∧ w.cell? (ad.add (i * 2 + 1)) = some (.int .i64 (L i).2)
theorem SlE.below {v : Value} {m : Nat} {L : Nat → Int × Int} (h : SlE w v m L) (hb : Below w.heap.size w w') : SlE w' v m L := by
  obtain ⟨a, cap, rfl, h0, h⟩ := h
  refine ⟨a, cap, rfl, h0, fun i hi => ?_⟩
  obtain ⟨ad, e, c1, c2⟩ := h i hi
  exact ⟨ad, e, (World.cell?_of_block (w := w) (hb.block _ (World.block_lt_of_cell? w _ c1))).trans c1, (World.cell?_of_block (w := w) (hb.block _ (World.block_lt_of_cell? w _ c2))).trans c2⟩

set_option maxHeartbeats 400000 in
theorem sameEvent_any (w : World) (a b c d : Int) : Calls Try.prog 48 #[.agg #[.int .i64 a, .int .i64 b], .agg #[.int .i64 c, .int .i64 d]] w fun e w' => ∃ x, e = .returned (.bool x) ∧ (x = true ↔ a = c ∧ b = d) ∧ Below w.heap.size w w' := by
  have HB := hide (fun o1 o2 => ((alloc_below w o1).trans ((alloc_below (w.alloc o1) o2).mono (by simp))))
  by_cases h1 : a = c
  · subst h1
    go_enter Try.func48, Try.ntmps48
    go_wp2_with fail
    go_ret
    exact ⟨b == d, rfl, by simp, unhide HB _ _⟩
  · have h1' : decide (a = c) = false := by simpa using h1
    go_enter Try.func48, Try.ntmps48
    go_wp2_with fail
    go_ret
    exact ⟨false, rfl, by simp [h1], unhide HB _ _⟩

set_option maxHeartbeats 800000 in
theorem begins_any {a b : Value} {m k : Nat} {L M : Nat → Int × Int} (hm : m ≤ 1000000) (ha : SlE w a m L) (hb : SlE w b k M) :
    Calls Try.prog 30 #[a, b] w fun e w' => ∃ x, e = .returned (.bool x) ∧ (x = true ↔ m ≤ k ∧ ∀ i, i < m → L i = M i) ∧ Below w.heap.size w w' := by
  have HA := hide ha
  have HBB := hide hb
  obtain ⟨aa, ac, rfl, _, _⟩ := ha
  obtain ⟨ba, bc, rfl, _, _⟩ := hb
  by_cases hmk : m ≤ k
  · have hmk' : decide ((k : Int) < (m : Int)) = false := by simp; omega
    have hmk2 : decide (k < m) = false := by simp; omega
    go_enter Try.func30, Try.ntmps30
    go_wp2_with fail
    go_loopg [5] m (fun g d wr => ∃ (j : Nat), j + g = m ∧ d = .int .i64 (j : Int) ∧ Below w.heap.size w wr ∧ ∀ i, i < j → L i = M i)
    case atStart => exact ⟨0, Nat.zero_add _, rfl, Below.refl _ _, fun i hi => by omega⟩
    case round =>
      obtain ⟨j, hjg, rfl, hbr, hall⟩ := hrel
      have HBR := hide hbr
      have HALL := hide hall
      clear hall hbr
      by_cases hlt : j < m
      · have hlt' : (j : Int) < (m : Int) := by omega
        have hlt2 : (j : Int) < (k : Int) := by omega
        obtain ⟨aa', ac', e0, _, hca⟩ := (unhide HA).below (unhide HBR)
        obtain ⟨ad, e1, c1, c2⟩ := hca j hlt
        injection e0 with e00 _ e01
        subst e00 e01 e1
        obtain ⟨ba', bc', f0, _, hcb⟩ := (unhide HBB).below (unhide HBR)
        obtain ⟨bd, f1, c3, c4⟩ := hcb j (by omega)
        injection f0 with f00 _ f01
        subst f00 f01 f1
        clear hca hcb
        have hw1 : Hid (Value.int .i64 ((j : Int) + 1) = Value.int .i64 ((j + 1 : Nat) : Int)) := hide (congrArg (Value.int .i64) (by omega))
        obtain ⟨x1, HX1⟩ : ∃ x, Hid (L j = x) := ⟨_, rfl⟩
        obtain ⟨x2, HX2⟩ : ∃ x, Hid (M j = x) := ⟨_, rfl⟩
        rw [unhide HX1] at c1 c2
        rw [unhide HX2] at c3 c4
        obtain ⟨l1, l2⟩ := x1
        obtain ⟨m1, m2⟩ := x2
        simp only at c1 c2 c3 c4
        have c2' : wr.cell? ⟨(ad.add (j * 2)).block, (ad.add (j * 2)).off + 1, none⟩ = some (.int .i64 l2) := by show wr.cell? ((ad.add (j * 2)).add 1) = _; rw [Addr.add_add]; exact c2
        have c4' : wr.cell? ⟨(bd.add (j * 2)).block, (bd.add (j * 2)).off + 1, none⟩ = some (.int .i64 m2) := by show wr.cell? ((bd.add (j * 2)).add 1) = _; rw [Addr.add_add]; exact c4
        go_wp2_with fail
        go_region_with (go_at_call 48; refine (sameEvent_any _ l1 l2 m1 m2).mono ?_; rintro e w3 ⟨x, rfl, hx, hb3⟩)
        all_goals
          have HX := hide hx
          have HB3 := hide ((unhide HBR).trans ((below_drewN2 (Below.refl _ _) 1).trans (hb3.mono (unhide HBR).size)))
          clear hx hb3
          cases x
          · have HNE := hide (show L j ≠ M j from fun e => by
              rw [unhide HX1, unhide HX2] at e
              injection e with e1 e2
              have := (unhide HX).2 ⟨e1, e2⟩
              cases this)
            go_wp2_with fail
            go_ret
            exact ⟨false, rfl, ⟨(fun h => by cases h), fun h => absurd (h.2 j hlt) (unhide HNE)⟩, unhide HB3⟩
          · have HEQ := hide (show L j = M j by
              rw [unhide HX1, unhide HX2]
              have := (unhide HX).1 rfl
              rw [this.1, this.2])
            go_wp2_with fail
            go_roundg (gk - 1)
            case measure => omega
            case rel => exact ⟨j + 1, by omega, unhide hw1, unhide HB3, fun i hi => by
              by_cases e : i = j
              · rw [e]; exact unhide HEQ
              · exact unhide HALL i (by omega)⟩
      · have hje : j = m := by omega
        subst hje
        have hlt' : decide ((j : Int) < (j : Int)) = false := by simp
        go_wp2_with fail
        go_ret
        exact ⟨true, rfl, ⟨fun _ => ⟨hmk, unhide HALL⟩, fun _ => rfl⟩, unhide HBR⟩
  · have hmk' : decide ((k : Int) < (m : Int)) = true := by simp; omega
    go_enter Try.func30, Try.ntmps30
    go_wp2_with fail
    go_ret
    exact ⟨false, rfl, ⟨(fun h => by cases h), fun h => absurd h.1 hmk⟩, Below.refl _ _⟩

end Go.Proofs.Ytfcflnnleadpkaa
