import Derived.Test.YtfcflnnleadpkaaGreatScJ
import Derived.Deep.LoopGhost
import Derived.Test.YtfcflnnleadpkaaGreatMaJ
namespace Go.Proofs.YtfcflnnleadpkaaGreat
open Go.RowKit

variable {w w' w'' : World} {B b : Nat} {s : ByteArray} {i f : Nat} {N nv : Nat} {C : List Nat} {v v' : Value}

theorem ownsRow_slice {w : World} {B n : Nat} {e : TypeId} {l : Value} {xs : List Value} (h : w.ownsRow B e 1 l n xs) : ∃ a cap, l = .slice a n cap := by
  rcases h.2 with ⟨rfl, e1⟩ | ⟨g, cap, cur, rfl, _⟩
  · exact ⟨none, 0, by rw [e1]⟩
  · exact ⟨_, cap, rfl⟩

set_option maxHeartbeats 2000000 in
set_option maxRecDepth 10000 in
theorem vars_any (h : Scn w b s 0 false N nv v) :
    Calls Tryz.prog 27 #[.pointer (some ⟨b, 0, none⟩)] w fun e w' => ∃ l, e = .returned l ∧ Scn w' b s (vrEnd (bt s) N).1 (vrEnd (bt s) N).2 N nv v ∧ w'.ownsRow w.heap.size 3 1 l (nvOf (bt s) N) (fixL (bt s) N (nvOf (bt s) N)) ∧ Kp b none w w' := by
  have hb : b < w.heap.size := World.block_lt_of_cell? w _ h.c1
  have HH := hide h
  clear h
  obtain ⟨i0, hi0, hz0, hz1, hz2⟩ := info_parts info_int
  have HI := hide (And.intro hi0 (And.intro hz0 (And.intro hz1 hz2)))
  clear hi0 hz0 hz1 hz2
  go_enter Tryz.func27, Tryz.ntmps27
  go_wp2_with fail
  go_loopg [3] 17 (fun g l wr => ∃ (k : Nat) (bad : Bool), k ≤ 8 ∧ 2 * (8 - k) + (!bad).toNat = g ∧ nvOf (bt s) N = cntV (bt s) N (8 - k) k ∧ (bad = true → bt s k ≠ 58 ∧ cntV (bt s) N (8 - k) k = k) ∧ VarsI w wr b s k bad N nv v l)
  case atStart => exact ⟨0, false, by omega, rfl, rfl, (fun h => by cases h), unhide HH, World.ownsRow_nil _ _ _ _, Kp.refl _ _ _⟩
  case round =>
    obtain ⟨k, bad, hk, hg, hnv, hbd, hvi⟩ := hrel
    have HNV := hide hnv
    have HBD := hide hbd
    have HV := hide hvi
    have k1 := hvi.sc.c1
    have k2 := hvi.sc.c2
    have k3 := hvi.sc.c3
    have kz1 := hvi.sc.fz 1
    have kz2 := hvi.sc.fz 2
    clear hnv hbd hvi
    cases bad
    · by_cases h58 : bt s k = 58
      · have hne : (bt s k != 58) = false := by simp [h58]
        have HE := hide (show vrEnd (bt s) N = (k + 1, false) ∧ nvOf (bt s) N = k by
          have h2 := unhide HNV
          have h3 : cntV (bt s) N (8 - k) k = k := by
            by_cases e : k < 8
            · exact cntV_no e (by rw [h58]; exact vb_58 N)
            · exact cntV_end (by omega)
          rw [h3] at h2
          exact ⟨by unfold vrEnd; rw [h2, if_pos h58], h2⟩)
        go_wp2_with fail
        refine (peek_any (unhide HV).sc).mono ?_
        rintro e w1 ⟨rfl, q, rfl⟩
        go_wp2_with fail
        go_ret
        have hst := (unhide HV).set1 hb (k + 1) false q
        refine ⟨_, rfl, ?_, ?_, ?_⟩
        · rw [(unhide HE).1, setCell_drewN, (unhide HV).sc.set1 _ (k + 1) (by omega)]; exact hst.1
        · rw [(unhide HE).2, setCell_drewN, (unhide HV).sc.set1 _ (k + 1) (by omega)]; exact hst.2.1
        · rw [setCell_drewN, (unhide HV).sc.set1 _ (k + 1) (by omega)]; exact hst.2.2
      have hne : (bt s k != 58) = true := by simp [h58]
      have ⟨hb0, hb1⟩ := bt_bd s k
      obtain ⟨a, cp, rfl⟩ := ownsRow_slice (unhide HV).own
      by_cases h8 : 8 ≤ k
      · have q8 : decide ((8 : Int) ≤ (k : Int)) = true := by simp; omega
        go_wp2_with fail
        refine (peek_any (unhide HV).sc).mono ?_
        rintro e w1 ⟨rfl, q, rfl⟩
        go_wp2_with fail
        refine (peek_any ((unhide HV).sc.drewN q)).mono ?_
        rintro e w1 ⟨rfl, q2, rfl⟩
        go_wp2_with fail
        go_roundg (2 * (8 - k))
        case measure => simp at hg; omega
        case rel => exact ⟨k, true, hk, by simp, unhide HNV, (fun _ => ⟨h58, cntV_end h8⟩), by
          rw [setCell_drewN, (unhide HV).sc.set2]
          have hst := (unhide HV).set1 hb k true (q + q2)
          exact ⟨hst.1, hst.2.1, hst.2.2⟩⟩
      have q8 : decide ((8 : Int) ≤ (k : Int)) = false := by simp; omega
      cases hvb : vb N (bt s k)
      · have h63 : (bt s k != 63) = true := by
          unfold vb at hvb; simp only [Bool.or_eq_false_iff] at hvb
          rw [bne, hvb.1]; rfl
        have HD := hide (show dgt (bt s k) N = -1 by
          unfold vb at hvb; simp only [Bool.or_eq_false_iff] at hvb
          unfold dgt; rw [hvb.2]; rfl)
        go_wp2_with fail
        refine (peek_any (unhide HV).sc).mono ?_
        rintro e w1 ⟨rfl, q, rfl⟩
        go_wp2_with fail
        refine (peek_any ((unhide HV).sc.drewN q)).mono ?_
        rintro e w1 ⟨rfl, q2, rfl⟩
        go_wp2_with fail
        refine (digit_any _ _ _ hb0 hb1).mono ?_
        rintro e w' ⟨rfl, rfl⟩
        rw [unhide HD]
        go_wp2_with fail
        go_roundg (2 * (8 - k))
        case measure => simp at hg; omega
        case rel => exact ⟨k, true, hk, by simp, unhide HNV, (fun _ => ⟨h58, cntV_no (by omega) hvb⟩), by
          rw [setCell_drewN, (unhide HV).sc.set2]
          have hst := (unhide HV).set1 hb k true (q + q2)
          exact ⟨hst.1, hst.2.1, hst.2.2⟩⟩
      · have HNX := hide (show nvOf (bt s) N = cntV (bt s) N (8 - (k + 1)) (k + 1) by rw [unhide HNV, cntV_yes (by omega) hvb])
        have HF := hide (show dgt (bt s k) N = fixV (bt s) N k from rfl)
        have hbw : b < wr.heap.size := by have := (unhide HV).kp.size; omega
        have hlb : some b ≠ (Value.slice a k cp).ownBlock := fun e => by have := ((unhide HV).own.lt b e.symm).1; omega
        have hws := (unhide HV).kp.size
        by_cases h63 : bt s k = 63
        · have h63' : (bt s k != 63) = false := by simp [h63]
          clear h63 h58
          go_wp2_with fail
          refine (peek_any (unhide HV).sc).mono ?_
          rintro e w1 ⟨rfl, q, rfl⟩
          go_wp2_with fail
          refine (peek_any ((unhide HV).sc.drewN q)).mono ?_
          rintro e w1 ⟨rfl, q2, rfl⟩
          go_wp2_with fail
          refine (digit_any _ _ _ hb0 hb1).mono ?_
          rintro e w' ⟨rfl, rfl⟩
          rw [unhide HF]
          go_wp2_with (at_builtin; refine wpList_append_lies _ rfl _ _ 50 rfl w.heap.size 3 i0 (.int .i64 0) 1 8 Tryz.underlying50 (unhide HI).1 (unhide HI).2.1 (unhide HI).2.2.1 (unhide HI).2.2.2 rfl (by decide) _ _ _ rfl ((unhide HV).own.alloc _) ⟨wr.heap.size, 0, none⟩ 1 1 [.int .i64 (fixV (bt s) N k)] rfl rfl (World.news_of_block (cs := #[.int .i64 (fixV (bt s) N k)]) (t := 3) (fr := (0, 0)) (heap_alloc_new wr _)) (by simp [Value.oneCell']) (by omega) (by unfold maxLen; omega) (by omega) (by simp; omega) (wr.heap.size + 1) (by simp) ?_)
          intro gg cap w1 hown1 hgrow hat hlt
          have HVP := hide ((unhide HV).push hb (q + q2) hown1 hgrow)
          have c1 := (hgrow.cell_far ⟨b, 1, none⟩ (by simp; omega) hlb).trans ((World.cell?_of_block (w := wr) (a := ⟨b, 1, none⟩) (Below.heap_alloc wr _ b hbw)).trans k1)
          have z1 := (hgrow.frozen_far ⟨b, 1, none⟩ (by simp; omega) hlb).trans ((World.frozen?_of_block (w := wr) (a := ⟨b, 1, none⟩) (Below.heap_alloc wr _ b hbw)).trans kz1)
          clear hown1 hgrow hat hlt
          go_wp2_with fail
          go_roundg (2 * (8 - (k + 1)) + 1)
          case measure => simp at hg; omega
          case rel => exact ⟨k + 1, false, by omega, rfl, unhide HNX, (fun h => by cases h), unhide HVP⟩
        · have h63' : (bt s k != 63) = true := by simp [h63]
          have hdb : isDB (bt s k) N = true := by
            unfold vb at hvb; simp only [Bool.or_eq_true, beq_iff_eq] at hvb
            rcases hvb with e | e
            · exact absurd e h63
            · exact e
          have HD := hide (show dgt (bt s k) N = bt s k - 48 by unfold dgt; rw [hdb]; rfl)
          have hlt0 : decide (bt s k - 48 < 0) = false := by have := (isDB_iff _ _).1 hdb; simp; omega
          clear h63 h58
          go_wp2_with fail
          refine (peek_any (unhide HV).sc).mono ?_
          rintro e w1 ⟨rfl, q, rfl⟩
          go_wp2_with fail
          refine (peek_any ((unhide HV).sc.drewN q)).mono ?_
          rintro e w1 ⟨rfl, q2, rfl⟩
          go_wp2_with fail
          refine (digit_any _ _ _ hb0 hb1).mono ?_
          rintro e w' ⟨rfl, rfl⟩
          rw [unhide HD]
          go_wp2_with fail
          refine (digit_any _ _ _ hb0 hb1).mono ?_
          rintro e w' ⟨rfl, rfl⟩
          rw [unhide HF]
          go_wp2_with (at_builtin; refine wpList_append_lies _ rfl _ _ 50 rfl w.heap.size 3 i0 (.int .i64 0) 1 8 Tryz.underlying50 (unhide HI).1 (unhide HI).2.1 (unhide HI).2.2.1 (unhide HI).2.2.2 rfl (by decide) _ _ _ rfl ((unhide HV).own.alloc _) ⟨wr.heap.size, 0, none⟩ 1 1 [.int .i64 (fixV (bt s) N k)] rfl rfl (World.news_of_block (cs := #[.int .i64 (fixV (bt s) N k)]) (t := 3) (fr := (0, 0)) (heap_alloc_new wr _)) (by simp [Value.oneCell']) (by omega) (by unfold maxLen; omega) (by omega) (by simp; omega) (wr.heap.size + 1) (by simp) ?_)
          intro gg cap w1 hown1 hgrow hat hlt
          have HVP := hide ((unhide HV).push hb (q + q2) hown1 hgrow)
          have c1 := (hgrow.cell_far ⟨b, 1, none⟩ (by simp; omega) hlb).trans ((World.cell?_of_block (w := wr) (a := ⟨b, 1, none⟩) (Below.heap_alloc wr _ b hbw)).trans k1)
          have z1 := (hgrow.frozen_far ⟨b, 1, none⟩ (by simp; omega) hlb).trans ((World.frozen?_of_block (w := wr) (a := ⟨b, 1, none⟩) (Below.heap_alloc wr _ b hbw)).trans kz1)
          clear hown1 hgrow hat hlt
          go_wp2_with fail
          go_roundg (2 * (8 - (k + 1)) + 1)
          case measure => simp at hg; omega
          case rel => exact ⟨k + 1, false, by omega, rfl, unhide HNX, (fun h => by cases h), unhide HVP⟩
    · have HE := hide (show vrEnd (bt s) N = (k, true) by
        have h1 := unhide HBD rfl
        have h2 := unhide HNV
        unfold vrEnd; rw [h2, h1.2, if_neg h1.1])
      have HN := hide (show nvOf (bt s) N = k by rw [unhide HNV]; exact (unhide HBD rfl).2)
      go_wp2_with fail
      go_ret
      exact ⟨_, rfl, by rw [unhide HE]; exact (unhide HV).sc, by rw [unhide HN]; exact (unhide HV).own, (unhide HV).kp⟩

end Go.Proofs.YtfcflnnleadpkaaGreat

namespace Go.Proofs.YtfcflnnleadpkaaGreat

def Trans (n : Nat) (F : Nat → Nat → Bool) : Prop := ∀ a b c, a < n → b < n → c < n → F a b = true → F b c = true → F a c = true
def Sub (n : Nat) (F G : Nat → Nat → Bool) : Prop := ∀ a b, a < n → b < n → F a b = true → G a b = true

theorem stp_end (n : Nat) (R : Nat → Nat → Bool) (k a b : Nat) (ha : a < n) (hb : b < n) : stp n R k n 0 a b = (R a b || (R a k && R k b)) := by
  unfold stp; simp [ha, hb]
theorem wf_part (n : Nat) (R : Nat → Nat → Bool) (k : Nat) (hk : k ≤ n) : ∀ m, m < k → ∀ a c, a < n → c < n → wf n R k a m = true → wf n R k m c = true → wf n R k a c = true := by
  induction k with
  | zero => intro m hm; omega
  | succ k ih =>
    intro m hm a c ha hc h1 h2
    have hkn : k < n := by omega
    have hmn : m < n := by omega
    simp only [wf] at h1 h2 ⊢
    rw [stp_end n _ k a m ha hmn] at h1
    rw [stp_end n _ k m c hmn hc] at h2
    rw [stp_end n _ k a c ha hc]
    simp only [Bool.or_eq_true, Bool.and_eq_true] at h1 h2 ⊢
    have ih' := ih (by omega)
    by_cases e : m = k
    · subst e
      have g1 : wf n R m a m = true := by rcases h1 with h | h; exact h; exact h.1
      have g2 : wf n R m m c = true := by rcases h2 with h | h; exact h; exact h.2
      exact Or.inr ⟨g1, g2⟩
    · have hmk : m < k := by omega
      rcases h1 with h1 | ⟨h1, h1'⟩
      · rcases h2 with h2 | ⟨h2, h2'⟩
        · exact Or.inl (ih' m hmk a c ha hc h1 h2)
        · exact Or.inr ⟨ih' m hmk a k ha hkn h1 h2, h2'⟩
      · rcases h2 with h2 | ⟨h2, h2'⟩
        · exact Or.inr ⟨h1, ih' m hmk k c hkn hc h1' h2⟩
        · exact Or.inr ⟨h1, h2'⟩
theorem wf_trans (n : Nat) (R : Nat → Nat → Bool) : Trans n (wf n R n) := fun a b c ha hb hc h1 h2 => wf_part n R n (Nat.le_refl _) b hb a c ha hc h1 h2
theorem wf_sub (n : Nat) (R : Nat → Nat → Bool) (k : Nat) : Sub n R (wf n R k) := by
  intro a b ha hb h
  induction k with
  | zero => simp [wf, diagU, h]
  | succ k ih => simp only [wf]; rw [stp_end n _ k a b ha hb]; simp [ih]
theorem wf_least (n : Nat) (R F : Nat → Nat → Bool) (hr : ∀ i, i < n → F i i = true) (hs : Sub n R F) (ht : Trans n F) (k : Nat) (hk : k ≤ n) : Sub n (wf n R k) F := by
  induction k with
  | zero =>
    intro a b ha hb h
    simp only [wf, diagU, Bool.or_eq_true, Bool.and_eq_true, beq_iff_eq] at h
    rcases h with h | ⟨h, _⟩
    · exact hs a b ha hb h
    · subst h; exact hr a ha
  | succ k ih =>
    intro a b ha hb h
    simp only [wf] at h
    rw [stp_end n _ k a b ha hb] at h
    simp only [Bool.or_eq_true, Bool.and_eq_true] at h
    have ih' := ih (by omega)
    rcases h with h | ⟨h1, h2⟩
    · exact ih' a b ha hb h
    · exact ht a k b ha (by omega) hb (ih' a k ha (by omega) h1) (ih' k b (by omega) hb h2)

/-- How many pairs of levels a table has. -/
def cnt (n : Nat) (F : Nat → Nat → Bool) : Nat := (List.range (n * n)).countP fun x => F (x / n) (x % n)
theorem countP_lt {p q : Nat → Bool} (l : List Nat) (h : ∀ x ∈ l, p x = true → q x = true) (y : Nat) (hy : y ∈ l) (h1 : q y = true) (h2 : p y = false) : l.countP p < l.countP q := by
  induction l with
  | nil => simp at hy
  | cons a l ih =>
    have hm : l.countP p ≤ l.countP q := List.countP_mono_left (fun x hx => h x (List.mem_cons_of_mem a hx))
    rw [List.countP_cons, List.countP_cons]
    rcases List.mem_cons.1 hy with e | hy'
    · subst e
      simp [h1, h2]; omega
    · have := ih (fun x hx => h x (List.mem_cons_of_mem a hx)) hy'
      have ha := h a List.mem_cons_self
      cases e1 : p a <;> cases e2 : q a <;> simp_all <;> omega
theorem div_mod_lt {n a b : Nat} (ha : a < n) (hb : b < n) : a * n + b < n * n ∧ (a * n + b) / n = a ∧ (a * n + b) % n = b := by
  have hn : 0 < n := by omega
  refine ⟨?_, ?_, ?_⟩
  · have : (a + 1) * n ≤ n * n := Nat.mul_le_mul_right n (by omega)
    rw [Nat.add_mul] at this
    omega
  · rw [Nat.mul_comm, Nat.mul_add_div hn, Nat.div_eq_of_lt hb]; rfl
  · rw [Nat.mul_comm, Nat.mul_add_mod, Nat.mod_eq_of_lt hb]
theorem cnt_upd {n : Nat} {F : Nat → Nat → Bool} {a b : Nat} (ha : a < n) (hb : b < n) (h : F a b = false) : cnt n F < cnt n (updV F a b true) := by
  obtain ⟨h1, h2, h3⟩ := div_mod_lt ha hb
  refine countP_lt _ (fun x _ hx => ?_) (a * n + b) (List.mem_range.2 h1) ?_ ?_
  · unfold updV; split <;> simp_all
  · simp [h2, h3, updV]
  · simp [h2, h3, h]
theorem cnt_mono {n : Nat} {F : Nat → Nat → Bool} {a b : Nat} : cnt n F ≤ cnt n (updV F a b true) := by
  refine List.countP_mono_left (fun x _ hx => ?_)
  unfold updV; split <;> simp_all
theorem cnt_full {n : Nat} {F : Nat → Nat → Bool} (h : n * n ≤ cnt n F) {a b : Nat} (ha : a < n) (hb : b < n) : F a b = true := by
  obtain ⟨h1, h2, h3⟩ := div_mod_lt ha hb
  have hl : (List.range (n * n)).countP (fun x => F (x / n) (x % n)) ≤ (List.range (n * n)).length := List.countP_le_length
  have he : (List.range (n * n)).countP (fun x => F (x / n) (x % n)) = (List.range (n * n)).length := by
    have : n * n ≤ (List.range (n * n)).countP (fun x => F (x / n) (x % n)) := h
    simp only [List.length_range] at hl ⊢
    omega
  have := (List.countP_eq_length.1 he) (a * n + b) (List.mem_range.2 h1)
  simpa [h2, h3] using this

/-- Behind r rounds: between base and top; closed, or at least r pairs. -/
structure RInv (n : Nat) (base top : Nat → Nat → Bool) (r : Nat) (F : Nat → Nat → Bool) : Prop where
  lo : Sub n base F
  hi : Sub n F top
  pr : Trans n F ∨ r ≤ cnt n F
/-- Within a round that began with F0, ahead of i, j, k. -/
structure RndI (n : Nat) (base top F0 : Nat → Nat → Bool) (i j k : Nat) (F : Nat → Nat → Bool) : Prop where
  lo : Sub n base F
  hi : Sub n F top
  st : Trans n F0 → Hm.Same n F F0
  ch : (Hm.Same n F F0 ∧ ∀ a b c, a < n → b < n → c < n → (a < i ∨ (a = i ∧ (b < j ∨ (b = j ∧ c < k)))) → F0 a b = true → F0 b c = true → F0 a c = true) ∨ cnt n F0 < cnt n F

theorem RndI.start {n r : Nat} {base top F0 : Nat → Nat → Bool} (h : RInv n base top r F0) : RndI n base top F0 0 0 0 F0 :=
  ⟨h.lo, h.hi, fun _ _ _ _ _ => rfl, Or.inl ⟨fun _ _ _ _ => rfl, fun a b c _ _ _ h => by omega⟩⟩
theorem RndI.no {n i j k : Nat} {base top F0 F : Nat → Nat → Bool} (h : RndI n base top F0 i j k F) (hi : i < n) (hj : j < n) (hk : k < n) (hf : (F i j && F j k) = false) : RndI n base top F0 i j (k + 1) F := by
  refine ⟨h.lo, h.hi, h.st, ?_⟩
  rcases h.ch with ⟨h1, h2⟩ | h1
  · refine Or.inl ⟨h1, fun a b c ha hb hc hl e1 e2 => ?_⟩
    by_cases e : a = i ∧ b = j ∧ c = k
    · obtain ⟨rfl, rfl, rfl⟩ := e
      rw [h1 a b ha hb, h1 b c hb hc, e1, e2] at hf
      cases hf
    · exact h2 a b c ha hb hc (by omega) e1 e2
  · exact Or.inr h1
theorem RndI.yes {n i j k : Nat} {base top F0 F : Nat → Nat → Bool} (ht : Trans n top) (h : RndI n base top F0 i j k F) (hi : i < n) (hj : j < n) (hk : k < n) (h1 : F i j = true) (h2 : F j k = true) : RndI n base top F0 i j (k + 1) (updV F i k true) := by
  have hup : ∀ a b, F a b = true → updV F i k true a b = true := by
    intro a b h; unfold updV; split
    · rfl
    · exact h
  refine ⟨fun a b ha hb hh => hup a b (h.lo a b ha hb hh), fun a b ha hb hh => ?_, fun hT => ?_, ?_⟩
  · unfold updV at hh
    by_cases e : a = i ∧ b = k
    · obtain ⟨rfl, rfl⟩ := e
      exact ht a j b ha hj hb (h.hi a j ha hj h1) (h.hi j b hj hb h2)
    · have : (a == i && b == k) = false := by
        cases e' : (a == i && b == k) with
        | false => rfl
        | true => simp at e'; exact absurd e' e
      rw [this] at hh
      exact h.hi a b ha hb hh
  · intro a b ha hb
    have hs := h.st hT
    unfold updV
    by_cases e : a = i ∧ b = k
    · obtain ⟨rfl, rfl⟩ := e
      have := hT a j b ha hj hb (by rw [← hs a j ha hj]; exact h1) (by rw [← hs j b hj hb]; exact h2)
      simp [this]
    · have : (a == i && b == k) = false := by
        cases e' : (a == i && b == k) with
        | false => rfl
        | true => simp at e'; exact absurd e' e
      rw [this]; exact hs a b ha hb
  · rcases h.ch with ⟨g1, g2⟩ | g1
    · cases e : F i k with
      | false => right; rw [show cnt n F0 = cnt n F from ?_]; exact cnt_upd hi hk e
                 unfold cnt
                 refine List.countP_congr (fun x hx => ?_)
                 have hx' := List.mem_range.1 hx
                 have hn : 0 < n := by omega
                 have q1 : x / n < n := Nat.div_lt_of_lt_mul hx'
                 have q2 : x % n < n := Nat.mod_lt _ hn
                 rw [g1 _ _ q1 q2]
      | true =>
        left
        refine ⟨fun a b ha hb => ?_, fun a b c ha hb hc hl e1 e2 => ?_⟩
        · unfold updV
          by_cases e' : a = i ∧ b = k
          · obtain ⟨rfl, rfl⟩ := e'
            rw [← g1 a b ha hb, e]; simp
          · have : (a == i && b == k) = false := by
              cases e'' : (a == i && b == k) with
              | false => rfl
              | true => simp at e''; exact absurd e'' e'
            rw [this]; exact g1 a b ha hb
        · by_cases e' : a = i ∧ b = j ∧ c = k
          · obtain ⟨rfl, rfl, rfl⟩ := e'
            rw [← g1 a c ha hc]; exact e
          · exact g2 a b c ha hb hc (by omega) e1 e2
    · right; exact Nat.lt_of_lt_of_le g1 cnt_mono
theorem RndI.nextJ {n i j k : Nat} {base top F0 F : Nat → Nat → Bool} (h : RndI n base top F0 i j k F) (hk : n ≤ k) : RndI n base top F0 i (j + 1) 0 F := by
  refine ⟨h.lo, h.hi, h.st, ?_⟩
  rcases h.ch with ⟨h1, h2⟩ | h1
  · exact Or.inl ⟨h1, fun a b c ha hb hc hl => h2 a b c ha hb hc (by omega)⟩
  · exact Or.inr h1
theorem RndI.nextI {n i j : Nat} {base top F0 F : Nat → Nat → Bool} (h : RndI n base top F0 i j 0 F) (hj : n ≤ j) : RndI n base top F0 (i + 1) 0 0 F := by
  refine ⟨h.lo, h.hi, h.st, ?_⟩
  rcases h.ch with ⟨h1, h2⟩ | h1
  · exact Or.inl ⟨h1, fun a b c ha hb hc hl => h2 a b c ha hb hc (by omega)⟩
  · exact Or.inr h1
theorem RndI.done {n r i : Nat} {base top F0 F : Nat → Nat → Bool} (h0 : RInv n base top r F0) (h : RndI n base top F0 i 0 0 F) (hi : n ≤ i) : RInv n base top (r + 1) F := by
  refine ⟨h.lo, h.hi, ?_⟩
  rcases h.ch with ⟨h1, h2⟩ | h1
  · left
    intro a b c ha hb hc e1 e2
    rw [h1 a b ha hb] at e1
    rw [h1 b c hb hc] at e2
    rw [h1 a c ha hc]
    exact h2 a b c ha hb hc (by omega) e1 e2
  · rcases h0.pr with g | g
    · left
      have hs := h.st g
      intro a b c ha hb hc e1 e2
      rw [hs a b ha hb] at e1
      rw [hs b c hb hc] at e2
      rw [hs a c ha hc]
      exact g a b c ha hb hc e1 e2
    · right; omega
theorem RInv.trans {n r : Nat} {base top F : Nat → Nat → Bool} (h : RInv n base top r F) (hr : n * n ≤ r) : Trans n F := by
  rcases h.pr with g | g
  · exact g
  · intro a b c ha hb hc _ _
    exact cnt_full (by omega) ha hc
/-- The document's way comes to the program's table. -/
theorem RInv.same {n r : Nat} {P base F : Nat → Nat → Bool} (h : RInv n base (wf n P n) r F) (hr : n * n ≤ r) (hb : ∀ i, i < n → base i i = true) (hp : Sub n P base) : Hm.Same n F (wf n P n) := by
  intro a b ha hb'
  have h1 := wf_least n P F (fun i hi => h.lo i i hi hi (hb i hi)) (fun x y hx hy hh => h.lo x y hx hy (hp x y hx hy hh)) (h.trans hr) n (Nat.le_refl _) a b ha hb'
  have h2 := h.hi a b ha hb'
  cases e1 : F a b <;> cases e2 : wf n P n a b <;> simp_all

end Go.Proofs.YtfcflnnleadpkaaGreat
