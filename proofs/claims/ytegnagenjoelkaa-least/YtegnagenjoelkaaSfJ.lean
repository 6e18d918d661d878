import Derived.Test.YtegnagenjoelkaaMaJ
import Derived.Deep.LoopGhost
import Derived.Deep.OwnRows
import Derived.Deep.RegionWith
import Derived.BigRegion
import Derived.RegionTactic
import Derived.ChangeAlike
import Derived.Laws.Rows
import Derived.Deep.WholeRow
namespace Go.Proofs.Ytegnagenjoelkaa
open Go.RowKit

/-- May the byte x stand for a variable, where there are N levels? -/
def vb (N : Nat) (x : Int) : Bool := x == 63 || isDB x N
def cntV (c : Nat → Int) (N : Nat) : Nat → Nat → Nat
  | 0, k => k
  | f + 1, k => if vb N (c k) = true then cntV c N f (k + 1) else k
/-- How many variables a text has. -/
def nvOf (c : Nat → Int) (N : Nat) : Nat := cntV c N 8 0
theorem cntV_yes {c : Nat → Int} {N n k : Nat} (hk : k < n) (h : vb N (c k) = true) : cntV c N (n - k) k = cntV c N (n - (k + 1)) (k + 1) := by
  obtain ⟨m, hm⟩ : ∃ m, n - k = m + 1 := ⟨n - k - 1, by omega⟩
  have h2 : n - (k + 1) = m := by omega
  rw [hm, h2]; simp [cntV, h]
theorem cntV_no {c : Nat → Int} {N n k : Nat} (hk : k < n) (h : vb N (c k) = false) : cntV c N (n - k) k = k := by
  obtain ⟨m, hm⟩ : ∃ m, n - k = m + 1 := ⟨n - k - 1, by omega⟩
  rw [hm]; simp [cntV, h]
theorem cntV_end {c : Nat → Int} {N n k : Nat} (hk : n ≤ k) : cntV c N (n - k) k = k := by
  rw [show n - k = 0 from by omega]; rfl
/-- A variable's level in the text; -1: to be worked out. -/
def fixV (c : Nat → Int) (N : Nat) (k : Nat) : Int := dgt (c k) N
def fixL (c : Nat → Int) (N m : Nat) : List Value := (List.range m).map (fun k => Value.int .i64 (fixV c N k))
theorem fixL_succ (c : Nat → Int) (N m : Nat) : fixL c N m ++ [.int .i64 (fixV c N m)] = fixL c N (m + 1) := by
  unfold fixL; rw [List.range_succ, List.map_append]; rfl
theorem fixL_len (c : Nat → Int) (N m : Nat) : (fixL c N m).length = m := by simp [fixL]

/-- What 'vars' leaves. -/
def vrEnd (c : Nat → Int) (N : Nat) : Nat × Bool := if c (nvOf c N) = 58 then (nvOf c N + 1, false) else (nvOf c N, true)
theorem vb_58 (N : Nat) : vb N 58 = false := by
  cases h : vb N 58 with
  | false => rfl
  | true =>
    unfold vb at h
    simp only [Bool.or_eq_true] at h
    rcases h with h | h
    · simp at h
    · have := (isDB_iff 58 N).1 h; omega

variable {w w' w'' : World} {B b : Nat} {s : ByteArray} {i f : Nat} {N nv : Nat} {C : List Nat} {v v' : Value}

/-- The loop's state: the Scan at k, and a list of its own. -/
structure VarsI (w0 w : World) (b : Nat) (s : ByteArray) (k : Nat) (bad : Bool) (N nv : Nat) (v l : Value) : Prop where
  sc : Scn w b s k bad N nv v
  own : w.ownsRow w0.heap.size 3 1 l k (fixL (bt s) N k)
  kp : Kp b none w0 w

theorem VarsI.set1 {w0 : World} {k : Nat} {l : Value} (h : VarsI w0 w b s k false N nv v l) (hb : b < w0.heap.size) (j : Nat) (y : Bool) (q : Nat) :
    (Scn ((w.setRow b (scC s j y N nv v)).drewN q) b s j y N nv v) ∧ ((w.setRow b (scC s j y N nv v)).drewN q).ownsRow w0.heap.size 3 1 l k (fixL (bt s) N k) ∧ Kp b none w0 ((w.setRow b (scC s j y N nv v)).drewN q) := by
  have hg : w.grownBy ((w.setRow b (scC s j y N nv v)).drewN q) (some b) := ⟨rfl, rfl, rfl, by simp, fun k _ hk => setRow_other w b k _ (fun e => hk (by rw [e]))⟩
  refine ⟨h.sc.row j y v, h.own.kept hg ?_, ?_⟩
  · cases e : l.ownBlock with
    | none => exact Or.inl rfl
    | some g => exact Or.inr (by have := (h.own.lt g e).1; intro e'; simp at e'; omega)
  · exact h.kp.trans (Kp.setRow w b none _ q) (Or.inl rfl)

theorem VarsI.push {w0 w1 : World} {k gg cap : Nat} {l : Value} (h : VarsI w0 w b s k false N nv v l) (hb : b < w0.heap.size) (q : Nat)
    (hown1 : w1.ownsRow w0.heap.size 3 1 (.slice (some ⟨gg, 0, none⟩) (k + 1) cap) (k + 1) (fixL (bt s) N k ++ [.int .i64 (fixV (bt s) N k)]))
    (hgrow : ((w.alloc (.cells #[.int .i64 (fixV (bt s) N k)] 3)).drewN q).grownBy w1 l.ownBlock) :
    VarsI w0 (w1.setCell ⟨b, 1, none⟩ (.int .i64 ((k : Int) + 1))) b s (k + 1) false N nv v (.slice (some ⟨gg, 0, none⟩) (k + 1) cap) := by
  have hbw : b < w.heap.size := by have := h.kp.size; omega
  have hlb : some b ≠ l.ownBlock := fun e => by have := (h.own.lt b e.symm).1; omega
  have hb1 : ∀ j, j < w.heap.size → some j ≠ l.ownBlock → w1.heap[j]? = w.heap[j]? := fun j hj hne =>
    (hgrow.block j (by simp; omega) hne).trans (Below.heap_alloc w _ j hj)
  have hs1 : Scn w1 b s k false N nv v := (hb1 b hbw hlb).trans h.sc
  rw [hs1.set1 _ (k + 1) (by omega)]
  have hg2 : w1.grownBy (w1.setRow b (scC s (k + 1) false N nv v)) (some b) := ⟨rfl, rfl, rfl, by simp, fun j _ hk => setRow_other w1 b j _ (fun e => hk (by rw [e]))⟩
  refine ⟨hs1.row (k + 1) false v, ?_, ?_⟩
  · have hgg := (hown1.lt gg rfl).1
    rw [fixL_succ] at hown1
    exact hown1.kept hg2 (Or.inr (by simp [Value.ownBlock]; omega))
  · refine ⟨hgrow.os.trans h.kp.os, hgrow.tape.trans h.kp.tape, hgrow.output.trans h.kp.output, ?_, fun j hj h1 h2 => ?_⟩
    · have := hgrow.size; have := h.kp.size; simp at *; omega
    · have hj2 : j < w.heap.size := by have := h.kp.size; omega
      refine (setRow_other w1 b j _ h1).trans ((hb1 j hj2 (fun e => ?_)).trans (h.kp.block j hj h1 h2))
      have := (h.own.lt j e.symm).1; omega

end Go.Proofs.Ytegnagenjoelkaa

namespace Go.Proofs.Ytegnagenjoelkaa
open Go.RowKit

variable {w w' w'' : World} {B b : Nat} {s : ByteArray} {i f : Nat} {N nv : Nat} {C : List Nat} {v v' : Value}

theorem ownsRow_slice {w : World} {B n : Nat} {e : TypeId} {l : Value} {xs : List Value} (h : w.ownsRow B e 1 l n xs) : ∃ a cap, l = .slice a n cap := by
  rcases h.2 with ⟨rfl, e1⟩ | ⟨g, cap, cur, rfl, _⟩
  · exact ⟨none, 0, by rw [e1]⟩
  · exact ⟨_, cap, rfl⟩

set_option maxHeartbeats 2000000 in
set_option maxRecDepth 10000 in
theorem vars_any (h : Scn w b s 0 false N nv v) :
    Calls Try.prog 39 #[.pointer (some ⟨b, 0, none⟩)] w fun e w' => ∃ l, e = .returned l ∧ Scn w' b s (vrEnd (bt s) N).1 (vrEnd (bt s) N).2 N nv v ∧ w'.ownsRow w.heap.size 3 1 l (nvOf (bt s) N) (fixL (bt s) N (nvOf (bt s) N)) ∧ Kp b none w w' := by
  have hb : b < w.heap.size := World.block_lt_of_cell? w _ h.c1
  have HH := hide h
  clear h
  obtain ⟨i0, hi0, hz0, hz1, hz2⟩ := info_parts info_int
  have HI := hide (And.intro hi0 (And.intro hz0 (And.intro hz1 hz2)))
  clear hi0 hz0 hz1 hz2
  go_enter Try.func39, Try.ntmps39
  go_wp2_with fail
  go_loopg [3] 17 (fun g l wr => ∃ (k : Nat) (bad : Bool), k ≤ 8 ∧ 2 * (8 - k) + (!bad).toNat = g ∧ nvOf (bt s) N = cntV (bt s) N (8 - k) k ∧ (bad = true → bt s k ≠ 58 ∧ cntV (bt s) N (8 - k) k = k) ∧ VarsI w wr b s k bad N nv v l)
  case atStart => exact ⟨0, false, by omega, rfl, rfl, (fun h => by cases h), unhide HH, World.ownsRow_nil _ _ _ _, Kp.refl _ _ _⟩
  case round =>
    obtain ⟨k, bad, hk, hg, hnv, hbd, hvi⟩ := hrel
    have HNV := hide hnv
    have HBD := hide hbd
    have HV := hide hvi
    have k1 := hvi.sc.c1
    have k2 := hvi.sc.c2
    have k3 := hvi.sc.c3
    have kz1 := hvi.sc.fz 1
    have kz2 := hvi.sc.fz 2
    clear hnv hbd hvi
    cases bad
    · by_cases h58 : bt s k = 58
      · have hne : (bt s k != 58) = false := by simp [h58]
        have HE := hide (show vrEnd (bt s) N = (k + 1, false) ∧ nvOf (bt s) N = k by
          have h2 := unhide HNV
          have h3 : cntV (bt s) N (8 - k) k = k := by
            by_cases e : k < 8
            · exact cntV_no e (by rw [h58]; exact vb_58 N)
            · exact cntV_end (by omega)
          rw [h3] at h2
          exact ⟨by unfold vrEnd; rw [h2, if_pos h58], h2⟩)
        go_wp2_with fail
        refine (peek_any (unhide HV).sc).mono ?_
        rintro e w1 ⟨rfl, q, rfl⟩
        go_wp2_with fail
        go_ret
        have hst := (unhide HV).set1 hb (k + 1) false q
        refine ⟨_, rfl, ?_, ?_, ?_⟩
        · rw [(unhide HE).1, setCell_drewN, (unhide HV).sc.set1 _ (k + 1) (by omega)]; exact hst.1
        · rw [(unhide HE).2, setCell_drewN, (unhide HV).sc.set1 _ (k + 1) (by omega)]; exact hst.2.1
        · rw [setCell_drewN, (unhide HV).sc.set1 _ (k + 1) (by omega)]; exact hst.2.2
      have hne : (bt s k != 58) = true := by simp [h58]
      have ⟨hb0, hb1⟩ := bt_bd s k
      obtain ⟨a, cp, rfl⟩ := ownsRow_slice (unhide HV).own
      by_cases h8 : 8 ≤ k
      · have q8 : decide ((8 : Int) ≤ (k : Int)) = true := by simp; omega
        go_wp2_with fail
        refine (peek_any (unhide HV).sc).mono ?_
        rintro e w1 ⟨rfl, q, rfl⟩
        go_wp2_with fail
        refine (peek_any ((unhide HV).sc.drewN q)).mono ?_
        rintro e w1 ⟨rfl, q2, rfl⟩
        go_wp2_with fail
        go_roundg (2 * (8 - k))
        case measure => simp at hg; omega
        case rel => exact ⟨k, true, hk, by simp, unhide HNV, (fun _ => ⟨h58, cntV_end h8⟩), by
          rw [setCell_drewN, (unhide HV).sc.set2]
          have hst := (unhide HV).set1 hb k true (q + q2)
          exact ⟨hst.1, hst.2.1, hst.2.2⟩⟩
      have q8 : decide ((8 : Int) ≤ (k : Int)) = false := by simp; omega
      cases hvb : vb N (bt s k)
      · have h63 : (bt s k != 63) = true := by
          unfold vb at hvb; simp only [Bool.or_eq_false_iff] at hvb
          rw [bne, hvb.1]; rfl
        have HD := hide (show dgt (bt s k) N = -1 by
          unfold vb at hvb; simp only [Bool.or_eq_false_iff] at hvb
          unfold dgt; rw [hvb.2]; rfl)
        go_wp2_with fail
        refine (peek_any (unhide HV).sc).mono ?_
        rintro e w1 ⟨rfl, q, rfl⟩
        go_wp2_with fail
        refine (peek_any ((unhide HV).sc.drewN q)).mono ?_
        rintro e w1 ⟨rfl, q2, rfl⟩
        go_wp2_with fail
        refine (digit_any _ _ _ hb0 hb1).mono ?_
        rintro e w' ⟨rfl, rfl⟩
        rw [unhide HD]
        go_wp2_with fail
        go_roundg (2 * (8 - k))
        case measure => simp at hg; omega
        case rel => exact ⟨k, true, hk, by simp, unhide HNV, (fun _ => ⟨h58, cntV_no (by omega) hvb⟩), by
          rw [setCell_drewN, (unhide HV).sc.set2]
          have hst := (unhide HV).set1 hb k true (q + q2)
          exact ⟨hst.1, hst.2.1, hst.2.2⟩⟩
      · have HNX := hide (show nvOf (bt s) N = cntV (bt s) N (8 - (k + 1)) (k + 1) by rw [unhide HNV, cntV_yes (by omega) hvb])
        have HF := hide (show dgt (bt s k) N = fixV (bt s) N k from rfl)
        have hbw : b < wr.heap.size := by have := (unhide HV).kp.size; omega
        have hlb : some b ≠ (Value.slice a k cp).ownBlock := fun e => by have := ((unhide HV).own.lt b e.symm).1; omega
        have hws := (unhide HV).kp.size
        by_cases h63 : bt s k = 63
        · have h63' : (bt s k != 63) = false := by simp [h63]
          clear h63 h58
          go_wp2_with fail
          refine (peek_any (unhide HV).sc).mono ?_
          rintro e w1 ⟨rfl, q, rfl⟩
          go_wp2_with fail
          refine (peek_any ((unhide HV).sc.drewN q)).mono ?_
          rintro e w1 ⟨rfl, q2, rfl⟩
          go_wp2_with fail
          refine (digit_any _ _ _ hb0 hb1).mono ?_
          rintro e w' ⟨rfl, rfl⟩
          rw [unhide HF]
          go_wp2_with (at_builtin; refine wpList_append_lies _ rfl _ _ 46 rfl w.heap.size 3 i0 (.int .i64 0) 1 8 Try.underlying46 (unhide HI).1 (unhide HI).2.1 (unhide HI).2.2.1 (unhide HI).2.2.2 rfl (by decide) _ _ _ rfl ((unhide HV).own.alloc _) ⟨wr.heap.size, 0, none⟩ 1 1 [.int .i64 (fixV (bt s) N k)] rfl rfl (World.news_of_block (cs := #[.int .i64 (fixV (bt s) N k)]) (t := 3) (fr := (0, 0)) (heap_alloc_new wr _)) (by simp [Value.oneCell']) (by omega) (by unfold maxLen; omega) (by omega) (by simp; omega) (wr.heap.size + 1) (by simp) ?_)
          intro gg cap w1 hown1 hgrow hat hlt
          have HVP := hide ((unhide HV).push hb (q + q2) hown1 hgrow)
          have c1 := (hgrow.cell_far ⟨b, 1, none⟩ (by simp; omega) hlb).trans ((World.cell?_of_block (w := wr) (a := ⟨b, 1, none⟩) (Below.heap_alloc wr _ b hbw)).trans k1)
          have z1 := (hgrow.frozen_far ⟨b, 1, none⟩ (by simp; omega) hlb).trans ((World.frozen?_of_block (w := wr) (a := ⟨b, 1, none⟩) (Below.heap_alloc wr _ b hbw)).trans kz1)
          clear hown1 hgrow hat hlt
          go_wp2_with fail
          go_roundg (2 * (8 - (k + 1)) + 1)
          case measure => simp at hg; omega
          case rel => exact ⟨k + 1, false, by omega, rfl, unhide HNX, (fun h => by cases h), unhide HVP⟩
        · have h63' : (bt s k != 63) = true := by simp [h63]
          have hdb : isDB (bt s k) N = true := by
            unfold vb at hvb; simp only [Bool.or_eq_true, beq_iff_eq] at hvb
            rcases hvb with e | e
            · exact absurd e h63
            · exact e
          have HD := hide (show dgt (bt s k) N = bt s k - 48 by unfold dgt; rw [hdb]; rfl)
          have hlt0 : decide (bt s k - 48 < 0) = false := by have := (isDB_iff _ _).1 hdb; simp; omega
          clear h63 h58
          go_wp2_with fail
          refine (peek_any (unhide HV).sc).mono ?_
          rintro e w1 ⟨rfl, q, rfl⟩
          go_wp2_with fail
          refine (peek_any ((unhide HV).sc.drewN q)).mono ?_
          rintro e w1 ⟨rfl, q2, rfl⟩
          go_wp2_with fail
          refine (digit_any _ _ _ hb0 hb1).mono ?_
          rintro e w' ⟨rfl, rfl⟩
          rw [unhide HD]
          go_wp2_with fail
          refine (digit_any _ _ _ hb0 hb1).mono ?_
          rintro e w' ⟨rfl, rfl⟩
          rw [unhide HF]
          go_wp2_with (at_builtin; refine wpList_append_lies _ rfl _ _ 46 rfl w.heap.size 3 i0 (.int .i64 0) 1 8 Try.underlying46 (unhide HI).1 (unhide HI).2.1 (unhide HI).2.2.1 (unhide HI).2.2.2 rfl (by decide) _ _ _ rfl ((unhide HV).own.alloc _) ⟨wr.heap.size, 0, none⟩ 1 1 [.int .i64 (fixV (bt s) N k)] rfl rfl (World.news_of_block (cs := #[.int .i64 (fixV (bt s) N k)]) (t := 3) (fr := (0, 0)) (heap_alloc_new wr _)) (by simp [Value.oneCell']) (by omega) (by unfold maxLen; omega) (by omega) (by simp; omega) (wr.heap.size + 1) (by simp) ?_)
          intro gg cap w1 hown1 hgrow hat hlt
          have HVP := hide ((unhide HV).push hb (q + q2) hown1 hgrow)
          have c1 := (hgrow.cell_far ⟨b, 1, none⟩ (by simp; omega) hlb).trans ((World.cell?_of_block (w := wr) (a := ⟨b, 1, none⟩) (Below.heap_alloc wr _ b hbw)).trans k1)
          have z1 := (hgrow.frozen_far ⟨b, 1, none⟩ (by simp; omega) hlb).trans ((World.frozen?_of_block (w := wr) (a := ⟨b, 1, none⟩) (Below.heap_alloc wr _ b hbw)).trans kz1)
          clear hown1 hgrow hat hlt
          go_wp2_with fail
          go_roundg (2 * (8 - (k + 1)) + 1)
          case measure => simp at hg; omega
          case rel => exact ⟨k + 1, false, by omega, rfl, unhide HNX, (fun h => by cases h), unhide HVP⟩
    · have HE := hide (show vrEnd (bt s) N = (k, true) by
        have h1 := unhide HBD rfl
        have h2 := unhide HNV
        unfold vrEnd; rw [h2, h1.2, if_neg h1.1])
      have HN := hide (show nvOf (bt s) N = k by rw [unhide HNV]; exact (unhide HBD rfl).2)
      go_wp2_with fail
      go_ret
      exact ⟨_, rfl, by rw [unhide HE]; exact (unhide HV).sc, by rw [unhide HN]; exact (unhide HV).own, (unhide HV).kp⟩

end Go.Proofs.Ytegnagenjoelkaa

namespace Go.Proofs.Ytegnagenjoelkaa

def Trans (n : Nat) (F : Nat → Nat → Bool) : Prop := ∀ a b c, a < n → b < n → c < n → F a b = true → F b c = true → F a c = true
def Sub (n : Nat) (F G : Nat → Nat → Bool) : Prop := ∀ a b, a < n → b < n → F a b = true → G a b = true

theorem stp_end (n : Nat) (R : Nat → Nat → Bool) (k a b : Nat) (ha : a < n) (hb : b < n) : stp n R k n 0 a b = (R a b || (R a k && R k b)) := by
  unfold stp; simp [ha, hb]
theorem wf_part (n : Nat) (R : Nat → Nat → Bool) (k : Nat) (hk : k ≤ n) : ∀ m, m < k → ∀ a c, a < n → c < n → wf n R k a m = true → wf n R k m c = true → wf n R k a c = true := by
  induction k with
  | zero => intro m hm; omega
  | succ k ih =>
    intro m hm a c ha hc h1 h2
    have hkn : k < n := by omega
    have hmn : m < n := by omega
    simp only [wf] at h1 h2 ⊢
    rw [stp_end n _ k a m ha hmn] at h1
    rw [stp_end n _ k m c hmn hc] at h2
    rw [stp_end n _ k a c ha hc]
    simp only [Bool.or_eq_true, Bool.and_eq_true] at h1 h2 ⊢
    have ih' := ih (by omega)
    by_cases e : m = k
    · subst e
      have g1 : wf n R m a m = true := by rcases h1 with h | h; exact h; exact h.1
      have g2 : wf n R m m c = true := by rcases h2 with h | h; exact h; exact h.2
      exact Or.inr ⟨g1, g2⟩
    · have hmk : m < k := by omega
      rcases h1 with h1 | ⟨h1, h1'⟩
      · rcases h2 with h2 | ⟨h2, h2'⟩
        · exact Or.inl (ih' m hmk a c ha hc h1 h2)
        · exact Or.inr ⟨ih' m hmk a k ha hkn h1 h2, h2'⟩
      · rcases h2 with h2 | ⟨h2, h2'⟩
        · exact Or.inr ⟨h1, ih' m hmk k c hkn hc h1' h2⟩
        · exact Or.inr ⟨h1, h2'⟩
theorem wf_trans (n : Nat) (R : Nat → Nat → Bool) : Trans n (wf n R n) := fun a b c ha hb hc h1 h2 => wf_part n R n (Nat.le_refl _) b hb a c ha hc h1 h2
theorem wf_sub (n : Nat) (R : Nat → Nat → Bool) (k : Nat) : Sub n R (wf n R k) := by
  intro a b ha hb h
  induction k with
  | zero => simp [wf, diagU, h]
  | succ k ih => simp only [wf]; rw [stp_end n _ k a b ha hb]; simp [ih]
theorem wf_least (n : Nat) (R F : Nat → Nat → Bool) (hr : ∀ i, i < n → F i i = true) (hs : Sub n R F) (ht : Trans n F) (k : Nat) (hk : k ≤ n) : Sub n (wf n R k) F := by
  induction k with
  | zero =>
    intro a b ha hb h
    simp only [wf, diagU, Bool.or_eq_true, Bool.and_eq_true, beq_iff_eq] at h
    rcases h with h | ⟨h, _⟩
    · exact hs a b ha hb h
    · subst h; exact hr a ha
  | succ k ih =>
    intro a b ha hb h
    simp only [wf] at h
    rw [stp_end n _ k a b ha hb] at h
    simp only [Bool.or_eq_true, Bool.and_eq_true] at h
    have ih' := ih (by omega)
    rcases h with h | ⟨h1, h2⟩
    · exact ih' a b ha hb h
    · exact ht a k b ha (by omega) hb (ih' a k ha (by omega) h1) (ih' k b (by omega) hb h2)

/-- How many pairs of levels a table has. -/
def cnt (n : Nat) (F : Nat → Nat → Bool) : Nat := (List.range (n * n)).countP fun x => F (x / n) (x % n)
theorem countP_lt {p q : Nat → Bool} (l : List Nat) (h : ∀ x ∈ l, p x = true → q x = true) (y : Nat) (hy : y ∈ l) (h1 : q y = true) (h2 : p y = false) : l.countP p < l.countP q := by
  induction l with
  | nil => simp at hy
  | cons a l ih =>
    have hm : l.countP p ≤ l.countP q := List.countP_mono_left (fun x hx => h x (List.mem_cons_of_mem a hx))
    rw [List.countP_cons, List.countP_cons]
    rcases List.mem_cons.1 hy with e | hy'
    · subst e
      simp [h1, h2]; omega
    · have := ih (fun x hx => h x (List.mem_cons_of_mem a hx)) hy'
      have ha := h a List.mem_cons_self
      cases e1 : p a <;> cases e2 : q a <;> simp_all <;> omega
theorem div_mod_lt {n a b : Nat} (ha : a < n) (hb : b < n) : a * n + b < n * n ∧ (a * n + b) / n = a ∧ (a * n + b) % n = b := by
  have hn : 0 < n := by omega
  refine ⟨?_, ?_, ?_⟩
  · have : (a + 1) * n ≤ n * n := Nat.mul_le_mul_right n (by omega)
    rw [Nat.add_mul] at this
    omega
  · rw [Nat.mul_comm, Nat.mul_add_div hn, Nat.div_eq_of_lt hb]; rfl
  · rw [Nat.mul_comm, Nat.mul_add_mod, Nat.mod_eq_of_lt hb]
theorem cnt_upd {n : Nat} {F : Nat → Nat → Bool} {a b : Nat} (ha : a < n) (hb : b < n) (h : F a b = false) : cnt n F < cnt n (updV F a b true) := by
  obtain ⟨h1, h2, h3⟩ := div_mod_lt ha hb
  refine countP_lt _ (fun x _ hx => ?_) (a * n + b) (List.mem_range.2 h1) ?_ ?_
  · unfold updV; split <;> simp_all
  · simp [h2, h3, updV]
  · simp [h2, h3, h]
theorem cnt_mono {n : Nat} {F : Nat → Nat → Bool} {a b : Nat} : cnt n F ≤ cnt n (updV F a b true) := by
  refine List.countP_mono_left (fun x _ hx => ?_)
  unfold updV; split <;> simp_all
theorem cnt_full {n : Nat} {F : Nat → Nat → Bool} (h : n * n ≤ cnt n F) {a b : Nat} (ha : a < n) (hb : b < n) : F a b = true := by
  obtain ⟨h1, h2, h3⟩ := div_mod_lt ha hb
  have hl : (List.range (n * n)).countP (fun x => F (x / n) (x % n)) ≤ (List.range (n * n)).length := List.countP_le_length
  have he : (List.range (n * n)).countP (fun x => F (x / n) (x % n)) = (List.range (n * n)).length := by
    have : n * n ≤ (List.range (n * n)).countP (fun x => F (x / n) (x % n)) := h
    simp only [List.length_range] at hl ⊢
    omega
  have := (List.countP_eq_length.1 he) (a * n + b) (List.mem_range.2 h1)
  simpa [h2, h3] using this

/-- Behind r rounds: between base and top; closed, or at least r pairs. -/
structure RInv (n : Nat) (base top : Nat → Nat → Bool) (r : Nat) (F : Nat → Nat → Bool) : Prop where
  lo : Sub n base F
  hi : Sub n F top
  pr : Trans n F ∨ r ≤ cnt n F
/-- Within a round that began with F0, ahead of i, j, k. -/
structure RndI (n : Nat) (base top F0 : Nat → Nat → Bool) (i j k : Nat) (F : Nat → Nat → Bool) : Prop where
  lo : Sub n base F
  hi : Sub n F top
  st : Trans n F0 → Hm.Same n F F0
  ch : (Hm.Same n F F0 ∧ ∀ a b c, a < n → b < n → c < n → (a < i ∨ (a = i ∧ (b < j ∨ (b = j ∧ c < k)))) → F0 a b = true → F0 b c = true → F0 a c = true) ∨ cnt n F0 < cnt n F

theorem RndI.start {n r : Nat} {base top F0 : Nat → Nat → Bool} (h : RInv n base top r F0) : RndI n base top F0 0 0 0 F0 :=
  ⟨h.lo, h.hi, fun _ _ _ _ _ => rfl, Or.inl ⟨fun _ _ _ _ => rfl, fun a b c _ _ _ h => by omega⟩⟩
theorem RndI.no {n i j k : Nat} {base top F0 F : Nat → Nat → Bool} (h : RndI n base top F0 i j k F) (hi : i < n) (hj : j < n) (hk : k < n) (hf : (F i j && F j k) = false) : RndI n base top F0 i j (k + 1) F := by
  refine ⟨h.lo, h.hi, h.st, ?_⟩
  rcases h.ch with ⟨h1, h2⟩ | h1
  · refine Or.inl ⟨h1, fun a b c ha hb hc hl e1 e2 => ?_⟩
    by_cases e : a = i ∧ b = j ∧ c = k
    · obtain ⟨rfl, rfl, rfl⟩ := e
      rw [h1 a b ha hb, h1 b c hb hc, e1, e2] at hf
      cases hf
    · exact h2 a b c ha hb hc (by omega) e1 e2
  · exact Or.inr h1
theorem RndI.yes {n i j k : Nat} {base top F0 F : Nat → Nat → Bool} (ht : Trans n top) (h : RndI n base top F0 i j k F) (hi : i < n) (hj : j < n) (hk : k < n) (h1 : F i j = true) (h2 : F j k = true) : RndI n base top F0 i j (k + 1) (updV F i k true) := by
  have hup : ∀ a b, F a b = true → updV F i k true a b = true := by
    intro a b h; unfold updV; split
    · rfl
    · exact h
  refine ⟨fun a b ha hb hh => hup a b (h.lo a b ha hb hh), fun a b ha hb hh => ?_, fun hT => ?_, ?_⟩
  · unfold updV at hh
    by_cases e : a = i ∧ b = k
    · obtain ⟨rfl, rfl⟩ := e
      exact ht a j b ha hj hb (h.hi a j ha hj h1) (h.hi j b hj hb h2)
    · have : (a == i && b == k) = false := by
        cases e' : (a == i && b == k) with
        | false => rfl
        | true => simp at e'; exact absurd e' e
      rw [this] at hh
      exact h.hi a b ha hb hh
  · intro a b ha hb
    have hs := h.st hT
    unfold updV
    by_cases e : a = i ∧ b = k
    · obtain ⟨rfl, rfl⟩ := e
      have := hT a j b ha hj hb (by rw [← hs a j ha hj]; exact h1) (by rw [← hs j b hj hb]; exact h2)
      simp [this]
    · have : (a == i && b == k) = false := by
        cases e' : (a == i && b == k) with
        | false => rfl
        | true => simp at e'; exact absurd e' e
      rw [this]; exact hs a b ha hb
  · rcases h.ch with ⟨g1, g2⟩ | g1
    · cases e : F i k with
      | false => right; rw [show cnt n F0 = cnt n F from ?_]; exact cnt_upd hi hk e
                 unfold cnt
                 refine List.countP_congr (fun x hx => ?_)
                 have hx' := List.mem_range.1 hx
                 have hn : 0 < n := by omega
                 have q1 : x / n < n := Nat.div_lt_of_lt_mul hx'
                 have q2 : x % n < n := Nat.mod_lt _ hn
                 rw [g1 _ _ q1 q2]
      | true =>
        left
        refine ⟨fun a b ha hb => ?_, fun a b c ha hb hc hl e1 e2 => ?_⟩
        · unfold updV
          by_cases e' : a = i ∧ b = k
          · obtain ⟨rfl, rfl⟩ := e'
            rw [← g1 a b ha hb, e]; simp
          · have : (a == i && b == k) = false := by
              cases e'' : (a == i && b == k) with
              | false => rfl
              | true => simp at e''; exact absurd e'' e'
            rw [this]; exact g1 a b ha hb
        · by_cases e' : a = i ∧ b = j ∧ c = k
          · obtain ⟨rfl, rfl, rfl⟩ := e'
            rw [← g1 a c ha hc]; exact e
          · exact g2 a b c ha hb hc (by omega) e1 e2
    · right; exact Nat.lt_of_lt_of_le g1 cnt_mono
theorem RndI.nextJ {n i j k : Nat} {base top F0 F : Nat → Nat → Bool} (h : RndI n base top F0 i j k F) (hk : n ≤ k) : RndI n base top F0 i (j + 1) 0 F := by
  refine ⟨h.lo, h.hi, h.st, ?_⟩
  rcases h.ch with ⟨h1, h2⟩ | h1
  · exact Or.inl ⟨h1, fun a b c ha hb hc hl => h2 a b c ha hb hc (by omega)⟩
  · exact Or.inr h1
theorem RndI.nextI {n i j : Nat} {base top F0 F : Nat → Nat → Bool} (h : RndI n base top F0 i j 0 F) (hj : n ≤ j) : RndI n base top F0 (i + 1) 0 0 F := by
  refine ⟨h.lo, h.hi, h.st, ?_⟩
  rcases h.ch with ⟨h1, h2⟩ | h1
  · exact Or.inl ⟨h1, fun a b c ha hb hc hl => h2 a b c ha hb hc (by omega)⟩
  · exact Or.inr h1
theorem RndI.done {n r i : Nat} {base top F0 F : Nat → Nat → Bool} (h0 : RInv n base top r F0) (h : RndI n base top F0 i 0 0 F) (hi : n ≤ i) : RInv n base top (r + 1) F := by
  refine ⟨h.lo, h.hi, ?_⟩
  rcases h.ch with ⟨h1, h2⟩ | h1
  · left
    intro a b c ha hb hc e1 e2
    rw [h1 a b ha hb] at e1
    rw [h1 b c hb hc] at e2
    rw [h1 a c ha hc]
    exact h2 a b c ha hb hc (by omega) e1 e2
  · rcases h0.pr with g | g
    · left
      have hs := h.st g
      intro a b c ha hb hc e1 e2
      rw [hs a b ha hb] at e1
      rw [hs b c hb hc] at e2
      rw [hs a c ha hc]
      exact g a b c ha hb hc e1 e2
    · right; omega
theorem RInv.trans {n r : Nat} {base top F : Nat → Nat → Bool} (h : RInv n base top r F) (hr : n * n ≤ r) : Trans n F := by
  rcases h.pr with g | g
  · exact g
  · intro a b c ha hb hc _ _
    exact cnt_full (by omega) ha hc
/-- The document's way comes to the program's table. -/
theorem RInv.same {n r : Nat} {P base F : Nat → Nat → Bool} (h : RInv n base (wf n P n) r F) (hr : n * n ≤ r) (hb : ∀ i, i < n → base i i = true) (hp : Sub n P base) : Hm.Same n F (wf n P n) := by
  intro a b ha hb'
  have h1 := wf_least n P F (fun i hi => h.lo i i hi hi (hb i hi)) (fun x y hx hy hh => h.lo x y hx hy (hp x y hx hy hh)) (h.trans hr) n (Nat.le_refl _) a b ha hb'
  have h2 := h.hi a b ha hb'
  cases e1 : F a b <;> cases e2 : wf n P n a b <;> simp_all

end Go.Proofs.Ytegnagenjoelkaa

namespace Go.Proofs.Ytegnagenjoelkaa
open Go.RowKit

theorem info_rows : (Try.prog.info? 38).map (fun i => (i.zero, i.size, i.bytes)) = some (some (.slice none 0 0), 1, 24) := by kernel_rfl
theorem info_bool : (Try.prog.info? 4).map (fun i => (i.zero, i.size, i.bytes)) = some (some (.bool false), 1, 1) := by kernel_rfl

/-- i rows of a table, each in a block of its own, from B on. -/
structure Rws (w : World) (B n i : Nat) (rb : Nat → Nat) (F : Nat → Nat → Bool) : Prop where
  row : ∀ j, j < i → B ≤ rb j ∧ w.rowIs (rb j) 4 n (fun x => .bool (F j x))
  inj : ∀ j k, j < i → k < i → rb j = rb k → j = k

def rowV (rb : Nat → Nat) (n : Nat) (j : Nat) : Value := .slice (some ⟨rb j, 0, none⟩) n n
def rowL (rb : Nat → Nat) (n i : Nat) : List Value := (List.range i).map (rowV rb n)
def idT : Nat → Nat → Bool := fun i j => i == j

theorem rowL_succ (rb : Nat → Nat) (n i r : Nat) : rowL rb n i ++ [.slice (some ⟨r, 0, none⟩) n n] = rowL (fun j => if j = i then r else rb j) n (i + 1) := by
  unfold rowL
  rw [List.range_succ, List.map_append]
  congr 1
  · apply List.map_congr_left
    intro j hj
    have : j < i := List.mem_range.1 hj
    unfold rowV
    simp only [if_neg (show ¬ j = i by omega)]
  · simp [rowV]
/-- A round of the first loop: the new row's blocks, and what append does. -/
theorem Rws.push {w wr w1 : World} {n i : Nat} {rb : Nat → Nat} {v : Value} (hr : Rws wr w.heap.size n i rb idT) (hi : i < n) (hsz : w.heap.size ≤ wr.heap.size)
    (hown : wr.ownsRow w.heap.size 38 1 v i (rowL rb n i))
    (hg : ((wr.alloc (.cells ((madeCells #[.bool false] n).setIfInBounds i (.bool true)) 4)).alloc (.cells #[.slice (some ⟨wr.heap.size, 0, none⟩) n n] 38)).grownBy w1 v.ownBlock) :
    Rws w1 w.heap.size n (i + 1) (fun j => if j = i then wr.heap.size else rb j) idT := by
  have hnew : (wr.alloc (.cells ((madeCells #[.bool false] n).setIfInBounds i (.bool true)) 4)).rowIs wr.heap.size 4 n (fun x => .bool (idT i x)) := by
    have h := World.rowIs_alloc wr ((madeCells #[.bool false] n).setIfInBounds i (.bool true)) 4 (fun x => .bool (idT i x)) (fun x hx => by
      have hx' : x < n := by simpa [size_madeCells] using hx
      rw [Array.getElem?_setIfInBounds]
      by_cases e : i = x
      · subst e; simp [size_madeCells, hi, idT]
      · have e' : (i == x) = false := by simp [e]
        rw [if_neg e]; simp [madeCells, hx', Nat.mod_one, idT, e'])
    simpa [size_madeCells] using h
  have keep : ∀ (b : Nat) (f : Nat → Value), ((wr.alloc (.cells ((madeCells #[.bool false] n).setIfInBounds i (.bool true)) 4)).alloc (.cells #[.slice (some ⟨wr.heap.size, 0, none⟩) n n] 38)).rowIs b 4 n f → w1.rowIs b 4 n f := by
    intro b f hb
    refine hb.of_block (hg.block b hb.lt ?_)
    intro e
    have h2 := ((hown.alloc (.cells ((madeCells #[.bool false] n).setIfInBounds i (.bool true)) 4)).alloc (.cells #[.slice (some ⟨wr.heap.size, 0, none⟩) n n] 38)).2
    rcases h2 with ⟨rfl, _⟩ | ⟨g, cap, cur, rfl, _, hgg, _⟩
    · simp [Value.ownBlock] at e
    · simp only [Value.ownBlock, Option.some.injEq] at e
      obtain ⟨c, hc, _⟩ := hb
      rw [e, hgg] at hc
      simp at hc
  refine ⟨fun j hj => ?_, fun j k hj hk e => ?_⟩
  · by_cases e : j = i
    · subst e
      simp only [if_pos]
      exact ⟨hsz, keep _ _ (hnew.alloc _)⟩
    · simp only [if_neg e]
      obtain ⟨h1, h2⟩ := hr.row j (by omega)
      exact ⟨h1, keep _ _ ((h2.alloc _).alloc _)⟩
  · have hlt : ∀ j, j < i → rb j < wr.heap.size := fun j hj => (hr.row j hj).2.lt
    by_cases e1 : j = i
    · by_cases e2 : k = i
      · omega
      · simp only [if_pos e1, if_neg e2] at e
        have := hlt k (by omega); omega
    · by_cases e2 : k = i
      · simp only [if_neg e1, if_pos e2] at e
        have := hlt j (by omega); omega
      · simp only [if_neg e1, if_neg e2] at e
        exact hr.inj j k (by omega) (by omega) e

/-- The whole table in memory. -/
structure Grid (w : World) (B g n : Nat) (rb : Nat → Nat) (F : Nat → Nat → Bool) : Prop where
  out : ∀ j, j < n → w.cell? ⟨g, j, none⟩ = some (.slice (some ⟨rb j, 0, none⟩) n n)
  typ : ∃ cur, w.heap[g]? = some (.cells cur 38 (0, 0))
  row : ∀ j, j < n → B ≤ rb j ∧ w.rowIs (rb j) 4 n (fun x => .bool (F j x))
  inj : ∀ j k, j < n → k < n → rb j = rb k → j = k

theorem Grid.of {w : World} {B n : Nat} {rb : Nat → Nat} {F : Nat → Nat → Bool} {v : Value} (h1 : 1 ≤ n) (ho : w.ownsRow B 38 1 v n (rowL rb n n)) (hr : Rws w B n n rb F) :
    ∃ g cap, v = .slice (some ⟨g, 0, none⟩) n cap ∧ Grid w B g n rb F := by
  rcases ho.2 with ⟨_, e⟩ | ⟨g, cap, cur, rfl, hb, hg, hn, hc, hs, ht⟩
  · omega
  · refine ⟨g, cap, rfl, fun j hj => ?_, ⟨cur, hg⟩, hr.row, hr.inj⟩
    rw [cell_of_row w g j cur _ _ hg]
    have h2 : (rowL rb n n)[j]? = some (rowV rb n j) := by simp [rowL, hj]
    rw [← ht, List.getElem?_take, if_pos (by omega)] at h2
    simpa [rowV] using h2
theorem Grid.cell {w : World} {B g n : Nat} {rb : Nat → Nat} {F : Nat → Nat → Bool} (h : Grid w B g n rb F) {a b : Nat} (ha : a < n) (hb : b < n) : w.cell? ⟨rb a, b, none⟩ = some (.bool (F a b)) := (h.row a ha).2.cell hb
theorem Grid.froz {w : World} {B g n : Nat} {rb : Nat → Nat} {F : Nat → Nat → Bool} (h : Grid w B g n rb F) {a : Nat} (ha : a < n) (b : Nat) : w.frozen? ⟨rb a, b, none⟩ = false := (h.row a ha).2.frozen b
theorem Grid.ne {w : World} {B g n : Nat} {rb : Nat → Nat} {F : Nat → Nat → Bool} (h : Grid w B g n rb F) {a : Nat} (ha : a < n) : g ≠ rb a := by
  intro e
  obtain ⟨cur, hc⟩ := h.typ
  obtain ⟨c, hc2, _⟩ := (h.row a ha).2
  rw [← e, hc] at hc2
  simp at hc2
theorem Grid.set {w : World} {B g n : Nat} {rb : Nat → Nat} {F : Nat → Nat → Bool} (h : Grid w B g n rb F) {a b : Nat} (ha : a < n) : Grid (w.setCell ⟨rb a, b, none⟩ (.bool true)) B g n rb (updV F a b true) := by
  have hne := h.ne ha
  refine ⟨fun j hj => ?_, ?_, fun j hj => ?_, h.inj⟩
  · rw [World.cell?_of_block (w := w) (Below.heap_setCell w _ _ _ hne)]; exact h.out j hj
  · obtain ⟨cur, hc⟩ := h.typ
    exact ⟨cur, (Below.heap_setCell w _ _ _ hne).trans hc⟩
  · obtain ⟨h1, h2⟩ := h.row j hj
    refine ⟨h1, ?_⟩
    by_cases e : j = a
    · subst e
      refine (h2.set b (.bool true)).congr (fun x _ => ?_)
      unfold updV
      by_cases e' : x = b
      · simp [e']
      · simp [e']
    · refine (h2.setOther (fun e' => e (h.inj j a hj ha e')) _).congr (fun x _ => ?_)
      have : (j == a && x == b) = false := by simp [e]
      unfold updV; rw [this]; rfl
theorem Grid.drewN {w : World} {B g n q : Nat} {rb : Nat → Nat} {F : Nat → Nat → Bool} (h : Grid w B g n rb F) : Grid (w.drewN q) B g n rb F := ⟨h.out, h.typ, h.row, h.inj⟩
theorem Grid.congr {w : World} {B g n : Nat} {rb : Nat → Nat} {F G : Nat → Nat → Bool} (h : Grid w B g n rb F) (e : Hm.Same n F G) : Grid w B g n rb G :=
  ⟨h.out, h.typ, fun j hj => ⟨(h.row j hj).1, (h.row j hj).2.congr (fun x hx => by rw [e j x hj hx])⟩, h.inj⟩

theorem idx_at (s : ByteArray) (k : Nat) (i c : Int) (hi : i = (k : Int)) (hk : k < s.size) (hc : bt s k = c) (w : World) :
    (Instr.index 9 (.string s) (.int .i64 i)).run Try.prog w = .ok (.int .u8 c) w := by
  subst hi
  have h := run_index_string (P := Try.prog) (w := w) 9 s .i64 (k : Int) Try.underlying9
  rw [h]
  have h0 := bt_eq s k hk
  simp [hk, h0, hc]

theorem wrap_i64_id (x : Int) (h0 : 0 ≤ x) (h1 : x ≤ 1000000) : IntKind.i64.wrap x = x := by
  rw [IntKind.wrap_i64]; omega

/-- The table of the first m pairs, over that of the levels themselves. -/
def refP (s : ByteArray) (n : Nat) : Nat → Nat → Nat → Bool
  | 0 => idT
  | m + 1 => updV (refP s n m) (digV s (2 * m + 1) n).toNat (digV s (2 * m + 2) n).toNat true
theorem refP_eq (s : ByteArray) (n m : Nat) (i j : Nat) : refP s n m i j = (i == j || pairsTo s n m i j) := by
  induction m with
  | zero => simp [refP, pairsTo, idT, noT]
  | succ m ih =>
    simp only [refP, pairsTo, updV]
    split
    · simp
    · exact ih

theorem refP_step {s : ByteArray} {n k m a b : Nat} (hk : k = 2 * m + 1) (h : digV s k n = (a : Int) ∧ digV s (k + 1) n = (b : Int)) : refP s n (m + 1) = updV (refP s n m) a b true := by
  simp only [refP]
  rw [show 2 * m + 1 = k by omega, show 2 * m + 2 = k + 1 by omega, h.1, h.2]
  rfl
theorem Grid.drew1 {w : World} {B g n : Nat} {rb : Nat → Nat} {F : Nat → Nat → Bool} (h : Grid w B g n rb F) : Grid w.drew B g n rb F := ⟨h.out, h.typ, h.row, h.inj⟩
theorem RInv_start (s : ByteArray) (n : Nat) : RInv n (refP s n (s.size / 2)) (cl s n) 0 (refP s n (s.size / 2)) := by
  refine ⟨fun a b _ _ h => h, fun a b ha hb h => ?_, Or.inr (Nat.zero_le _)⟩
  rw [refP_eq] at h
  simp only [Bool.or_eq_true, beq_iff_eq] at h
  rcases h with h | h
  · subst h; exact wf_refl n _ n a ha
  · exact wf_sub n _ n a b ha hb h
theorem RInv.start' {n r : Nat} {base top F0 : Nat → Nat → Bool} (h : RInv n base top r F0) : RndI n base top F0 0 0 0 F0 := RndI.start h
theorem RInv.same' {s : ByteArray} {n r N : Nat} {base top F : Nat → Nat → Bool} (h : RInv n base top r F) (hN : N = n * n) (hr : N ≤ r) (hb : refP s n (s.size / 2) = base) (ht : cl s n = top) : Hm.Same n F top := by
  subst hb; subst ht; subst hN
  refine RInv.same (P := pairsTo s n (s.size / 2)) h hr (fun i _ => ?_) (fun a b _ _ hh => ?_)
  · rw [refP_eq]; simp
  · rw [refP_eq, hh]; simp

set_option maxHeartbeats 4000000 in
set_option maxRecDepth 10000 in
theorem closed_any (w : World) (s : ByteArray) (n : Nat) (h1 : 1 ≤ n) (h8 : n ≤ 8) (hs : s.size ≤ 65) (hgo : GoodOrd s n) :
    Calls Try.prog 30 #[.string s, .int .i64 (n : Int)] w fun e w' => (∃ g cap rb, e = .returned (.slice (some ⟨g, 0, none⟩) n cap) ∧ Grid w' w.heap.size g n rb (cl s n)) ∧ Below w.heap.size w w' := by
  have hmk := run_make_row' (P := Try.prog) 38 4 (.bool false) 1 Try.underlying38 info_bool rfl .i64 .i64 n (by omega) (by omega)
  have HGO := hide hgo
  clear hgo
  go_enter Try.func30, Try.ntmps30
  go_wp2_with fail
  go_loopw [5, 6] (fun v d wr => ∃ (i : Nat) (rb : Nat → Nat), i ≤ n ∧ d = .int .i64 (i : Int) ∧ wr.ownsRow w.heap.size 38 1 v i (rowL rb n i) ∧ Rws wr w.heap.size n i rb idT ∧ Below w.heap.size w wr) (fun _ d _ => n - (intOf d).toNat)
  case atStart => exact ⟨0, fun _ => 0, Nat.zero_le _, rfl, World.ownsRow_nil _ _ _ _, ⟨fun j h => by omega, fun j k h => by omega⟩, Below.refl _ _⟩
  case round =>
    obtain ⟨i, rb, hi, rfl, hown, hrw, hbel⟩ := hrel
    by_cases hlt : i < n
    · have HO := hide hown
      have HR := hide hrw
      clear hown hrw
      have hsz := size_madeCells #[Value.bool false] n
      obtain ⟨i0, hi0, hz0, hz1, hz2⟩ := info_parts info_rows
      have HI := hide (And.intro hi0 (And.intro hz0 (And.intro hz1 hz2)))
      clear hi0 hz0 hz1 hz2
      have hws := hbel.size
      go_wp2_with (at_builtin; refine wpList_append_own _ rfl _ _ 35 rfl w.heap.size 38 i0 (.slice none 0 0) 1 24 Try.underlying35 (unhide HI).1 (unhide HI).2.1 (unhide HI).2.2.1 (unhide HI).2.2.2 rfl (by decide) _ _ _ rfl (((unhide HO).alloc _).alloc _) ⟨wr.heap.size + 1, 0, none⟩ 1 1 [.slice (some ⟨wr.heap.size, 0, none⟩) n n] rfl rfl ?c1 ?c2 ?c3 ?c4 ?c5 ?_)
      case c1 =>
        intro j u hj
        match j, hj with
        | 0, hj => simp at hj; subst hj; simp [Addr.add]
      case c2 => intro u hu; simp at hu; subst hu; rfl
      case c3 => unfold maxLen; omega
      case c4 => omega
      case c5 => simp; omega
      intro v' w1 hown' hgrow _
      rw [rowL_succ] at hown'
      have R1 := Rws.push (unhide HR) hlt hws (unhide HO) hgrow
      have HO1 := hide hown'
      have HR1 := hide R1
      have HB1 : Hid (Below w.heap.size w w1) := Below.grown ((hbel.alloc hws _).alloc (by simp; omega) _) hgrow (by simp; omega) (fun k hk => ((unhide HO).lt k hk).1)
      clear hown' R1 hgrow
      go_wp2_with fail
      go_roundw
      case rel => exact ⟨i + 1, _, by omega, by go_num, unhide HO1, unhide HR1, unhide HB1⟩
      case measure => simp [intOf]; omega
    · have ei : i = n := by omega
      subst ei
      obtain ⟨g, cap, rfl, hgr⟩ := Grid.of h1 hown hrw
      have HGR := hide hgr
      have HBL := hide hbel
      clear hown hrw hgr hbel hmk
      go_wp2_with fail
      go_loopw [8] (fun d wr => ∃ k m : Nat, k = 2 * m + 1 ∧ k ≤ s.size ∧ d = .int .i64 (k : Int) ∧ Grid wr w.heap.size g i rb (refP s i m) ∧ Below w.heap.size w wr) (fun d _ => s.size - (intOf d).toNat)
      case atStart => exact ⟨1, 0, rfl, by have := (unhide HGO).2.1; omega, rfl, unhide HGR, unhide HBL⟩
      case round =>
        obtain ⟨k, m, hkm, hks, rfl, hgr, hbel⟩ := hrel
        have HK := hide hkm
        clear hkm
        by_cases hlk : k + 1 < s.size
        · obtain ⟨a, hv1, hia, hb1, -⟩ := digV_bd ((unhide HGO).2.2 k (by have := unhide HK; omega) (by omega))
          obtain ⟨b, hv2, hib, hb2, -⟩ := digV_bd ((unhide HGO).2.2 (k + 1) (by omega) (by omega))
          have hc1 := (bt_eq s k (by omega)).trans hb1
          have hc2 := (bt_eq s (k + 1) (by omega)).trans hb2
          have q5 : (0 : Int) ≤ (k : Int) + 1 := by omega
          have d1 := dgt_pos ((unhide HGO).2.2 k (by have := unhide HK; omega) (by omega))
          have d2 := dgt_pos ((unhide HGO).2.2 (k + 1) (by omega) (by omega))
          rw [hv1] at d1
          rw [hv2] at d2
          rw [hb1] at d1
          rw [hb2] at d2
          have hlk' : (k : Int) + 1 < (s.size : Int) := by omega
          have hlk2 : (k : Int) < (s.size : Int) := by omega
          have o1 := hgr.out a hia
          have o2 := hgr.cell hia hib
          have o3 := hgr.froz hia b
          have HV := hide (And.intro hv1 hv2)
          clear hv1 hv2 hb1 hb2
          have q1 : (0 : Int) ≤ 48 + (a : Int) := by omega
          have q2 : 48 + (a : Int) ≤ 255 := by omega
          have q3 : (0 : Int) ≤ 48 + (b : Int) := by omega
          have q4 : 48 + (b : Int) ≤ 255 := by omega
          have hwr : IntKind.i64.wrap ((k : Int) + 1) = (k : Int) + 1 := wrap_i64_id _ (by omega) (by omega)
          go_wp2_with fail
          have HGR1 := hide (And.intro (hgr.set (b := b) hia) (refP_step (unhide HK) (unhide HV)))
          have HBL1 := hide (hbel.setCell (hgr.row a hia).1 (.bool true) (p := ⟨rb a, b, none⟩))
          clear hgr hbel
          go_region_with (go_at_call 41; refine (digit_any _ _ _ (by assumption) (by assumption)).mono ?_; rintro e w' ⟨rfl, rfl⟩)
          all_goals
            go_wp2_with fail
            go_roundw
            case rel => exact ⟨k + 2, m + 1, by have := unhide HK; omega, by omega, by go_num, by rw [(unhide HGR1).2]; exact ((unhide HGR1).1 : Grid _ w.heap.size g i rb (updV (refP s i m) a b true)).drew1, (unhide HBL1).drew⟩
            case measure => simp [intOf]; omega
        · have HM := hide (show m = s.size / 2 by have := unhide HK; have := (unhide HGO).2.1; omega)
          have hlk' : ¬ ((k : Int) + 1 < (s.size : Int)) := by omega
          obtain ⟨N, hN⟩ : ∃ N : Nat, N = i * i := ⟨_, rfl⟩
          have hN8 : N ≤ 64 := by rw [hN]; exact Nat.mul_le_mul h8 h8
          have hmul : (i : Int) * (i : Int) = (N : Int) := by rw [hN]; simp
          have hwm : IntKind.i64.wrap (N : Int) = (N : Int) := wrap_i64_id _ (by omega) (by omega)
          have HN := hide hN
          have HGR1 := hide hgr
          have HBL1 := hide hbel
          have HT := hide (wf_trans i (pairsTo s i (s.size / 2)))
          have HR0 := hide (RInv_start s i)
          rw [unhide HM] at HGR1
          generalize hbase : refP s i (s.size / 2) = base at *
          generalize htop : cl s i = top at *
          have HTop := hide htop
          have HBase := hide hbase
          clear hN hgr hbel hbase htop
          go_wp2_with fail
          go_loopw [9] (fun d wr => ∃ (r : Nat) (F : Nat → Nat → Bool), r ≤ N ∧ d = .int .i64 (r : Int) ∧ Grid wr w.heap.size g i rb F ∧ RInv i base top r F ∧ Below w.heap.size w wr) (fun d _ => N - (intOf d).toNat)
          case atStart => exact ⟨0, base, Nat.zero_le _, rfl, unhide HGR1, unhide HR0, unhide HBL1⟩
          case round =>
            obtain ⟨r, F0, hr, rfl, hgr0, hri, hbel0⟩ := hrel
            have HGR2 := hide hgr0
            have HRI := hide hri
            have HBL2 := hide hbel0
            clear hgr0 hri hbel0
            by_cases hlr : r < N
            · go_wp2_with fail
              go_loopw [10] (fun d wr => ∃ (x : Nat) (F : Nat → Nat → Bool), x ≤ i ∧ d = .int .i64 (x : Int) ∧ Grid wr w.heap.size g i rb F ∧ RndI i base top F0 x 0 0 F ∧ Below w.heap.size w wr) (fun d _ => i - (intOf d).toNat)
              case atStart => exact ⟨0, F0, Nat.zero_le _, rfl, unhide HGR2, (unhide HRI).start', unhide HBL2⟩
              case round =>
                obtain ⟨x, F1, hx, rfl, hgr1, hr1, hbel1⟩ := hrel
                have HGR3 := hide hgr1
                have HR3 := hide hr1
                have HBL3 := hide hbel1
                clear hgr1 hr1 hbel1
                by_cases hlx : x < i
                · go_wp2_with fail
                  go_loopw [11] (fun d wr => ∃ (y : Nat) (F : Nat → Nat → Bool), y ≤ i ∧ d = .int .i64 (y : Int) ∧ Grid wr w.heap.size g i rb F ∧ RndI i base top F0 x y 0 F ∧ Below w.heap.size w wr) (fun d _ => i - (intOf d).toNat)
                  case atStart => exact ⟨0, F1, Nat.zero_le _, rfl, unhide HGR3, unhide HR3, unhide HBL3⟩
                  case round =>
                    obtain ⟨y, F2, hy, rfl, hgr2, hr2, hbel2⟩ := hrel
                    have HGR4 := hide hgr2
                    have HR4 := hide hr2
                    have HBL4 := hide hbel2
                    clear hgr2 hr2 hbel2
                    by_cases hly : y < i
                    · go_wp2_with fail
                      go_loopw [12] (fun d wr => ∃ (z : Nat) (F : Nat → Nat → Bool), z ≤ i ∧ d = .int .i64 (z : Int) ∧ Grid wr w.heap.size g i rb F ∧ RndI i base top F0 x y z F ∧ Below w.heap.size w wr) (fun d _ => i - (intOf d).toNat)
                      case atStart => exact ⟨0, F2, Nat.zero_le _, rfl, unhide HGR4, unhide HR4, unhide HBL4⟩
                      case round =>
                        obtain ⟨z, F, hz, rfl, hgr, hrr, hbel⟩ := hrel
                        have HGR5 := hide hgr
                        have HR5 := hide hrr
                        have HBL5 := hide hbel
                        clear hrr hbel
                        by_cases hlz : z < i
                        · have o1 := hgr.out x hlx
                          have o2 := hgr.out y hly
                          have o3 := hgr.cell hlx hly
                          have o4 := hgr.cell hly hlz
                          have o5 := hgr.cell hlx hlz
                          have o6 := hgr.froz hlx z
                          clear hgr
                          cases e1 : F x y
                          · rw [e1] at o3
                            have HF := hide ((unhide HR5).no hlx hly hlz (by rw [e1]; rfl))
                            go_wp2_with fail
                            go_roundw
                            case rel => exact ⟨z + 1, F, by omega, by go_num, unhide HGR5, unhide HF, unhide HBL5⟩
                            case measure => simp [intOf]; omega
                          · rw [e1] at o3
                            cases e2 : F y z
                            · rw [e2] at o4
                              have HF := hide ((unhide HR5).no hlx hly hlz (by rw [e2]; simp))
                              go_wp2_with fail
                              go_roundw
                              case rel => exact ⟨z + 1, F, by omega, by go_num, unhide HGR5, unhide HF, unhide HBL5⟩
                              case measure => simp [intOf]; omega
                            · rw [e2] at o4
                              have HF := hide ((unhide HR5).yes (by rw [← unhide HTop]; exact unhide HT) hlx hly hlz e1 e2)
                              go_wp2_with fail
                              go_roundw
                              case rel => exact ⟨z + 1, _, by omega, by go_num, (unhide HGR5).set hlx, unhide HF, (unhide HBL5).setCell ((unhide HGR5).row x hlx).1 _⟩
                              case measure => simp [intOf]; omega
                        · clear hgr
                          go_wp2_with fail
                          go_roundw
                          case rel => exact ⟨y + 1, F, by omega, by go_num, unhide HGR5, (unhide HR5).nextJ (by omega), unhide HBL5⟩
                          case measure => simp [intOf]; omega
                    · go_wp2_with fail
                      go_roundw
                      case rel => exact ⟨x + 1, F2, by omega, by go_num, unhide HGR4, (unhide HR4).nextI (by omega), unhide HBL4⟩
                      case measure => simp [intOf]; omega
                · go_wp2_with fail
                  go_roundw
                  case rel => exact ⟨r + 1, F1, by omega, by go_num, unhide HGR3, (unhide HR3).done (unhide HRI) (by omega), unhide HBL3⟩
                  case measure => simp [intOf]; omega
            · have HSame := hide ((unhide HRI).same' (unhide HN) (by omega) (unhide HBase) (unhide HTop))
              go_wp2_with fail
              go_ret
              exact ⟨⟨g, cap, rb, rfl, by rw [unhide HTop]; exact (unhide HGR2).congr (unhide HSame)⟩, unhide HBL2⟩

end Go.Proofs.Ytegnagenjoelkaa

namespace Go.Proofs.Ytegnagenjoelkaa
open Go.RowKit

/-- The document's order in memory at the block o: its number, its rows. -/
structure Ord (w : World) (o g cap n : Nat) (rb : Nat → Nat) (R : Nat → Nat → Bool) : Prop where
  cn : w.cell? ⟨o, 0, none⟩ = some (.int .i64 (n : Int))
  cb : w.cell? ⟨o, 1, none⟩ = some (.slice (some ⟨g, 0, none⟩) n cap)
  row : ∀ i, i < n → w.cell? ⟨g, i, none⟩ = some (.slice (some ⟨rb i, 0, none⟩) n n)
  bel : ∀ i j, i < n → j < n → w.cell? ⟨rb i, j, none⟩ = some (.bool (R i j))

set_option maxHeartbeats 400000 in
theorem above_any (w : World) (o g cap n i j k : Nat) (rb : Nat → Nat) (R : Nat → Nat → Bool) (ho : Ord w o g cap n rb R) (hi : i < n) (hj : j < n) (hk : k < n) :
    Calls Try.prog 66 #[.pointer (some ⟨o, 0, none⟩), .int .i64 (i : Int), .int .i64 (j : Int), .int .i64 (k : Int)] w fun e w' => e = .returned (.bool (Hm.both R i j k)) ∧ w' = w := by
  have hb := ho.cb
  have r1 := ho.row i hi
  have r2 := ho.row j hj
  have b1 := ho.bel i k hi hk
  have b2 := ho.bel j k hj hk
  have HF := hide (show Hm.both R i j k = (R i k && R j k) from rfl)
  cases h1 : R i k
  · rw [h1] at b1
    go_enter Try.func66, Try.ntmps66
    go_wp2_with fail
    go_ret
    exact ⟨by rw [unhide HF, h1]; rfl, rfl⟩
  · rw [h1] at b1
    go_enter Try.func66, Try.ntmps66
    go_wp2_with fail
    go_ret
    exact ⟨by rw [unhide HF, h1]; rfl, rfl⟩

set_option maxHeartbeats 400000 in
theorem least_any (w : World) (o g cap n i j k : Nat) (rb : Nat → Nat) (R : Nat → Nat → Bool) (hn : n ≤ 8) (ho : Ord w o g cap n rb R) (hi : i < n) (hj : j < n) (hk : k < n) :
    Calls Try.prog 49 #[.pointer (some ⟨o, 0, none⟩), .int .i64 (i : Int), .int .i64 (j : Int), .int .i64 (k : Int)] w fun e w' => e = .returned (.bool (Hm.lub R n i j k)) ∧ w' = w := by
  have hc := ho.cn
  have hb := ho.cb
  have r1 := ho.row k hk
  cases h1 : Hm.both R i j k
  · have HF := hide (show Hm.lub R n i j k = false by simp [Hm.lub, h1])
    go_enter Try.func49, Try.ntmps49
    go_wp2_with fail
    refine (above_any _ _ _ _ _ _ _ _ _ _ ho hi hj hk).mono ?_
    rintro e w' ⟨rfl, rfl⟩
    go_wp2_with fail
    go_ret
    exact ⟨by rw [unhide HF]; rfl, rfl⟩
  · have HF := hide (show Hm.lub R n i j k = Hm.allB (Hm.lubD R i j k) n 0 by simp [Hm.lub, h1])
    go_enter Try.func49, Try.ntmps49
    go_wp2_with fail
    refine (above_any _ _ _ _ _ _ _ _ _ _ ho hi hj hk).mono ?_
    rintro e w' ⟨rfl, rfl⟩
    go_wp2_with fail
    go_loop [9] (fun d => ∃ m : Nat, m ≤ n ∧ d = .int .i64 (m : Int) ∧ Hm.allB (Hm.lubD R i j k) n 0 = Hm.allB (Hm.lubD R i j k) (n - m) m) (fun d => n - (intOf d).toNat)
    case atStart => exact ⟨0, Nat.zero_le _, rfl, rfl⟩
    case round =>
      obtain ⟨m, hm, rfl, hq⟩ := hrel
      have HQ := hide hq
      clear hq
      by_cases hlt : m < n
      · have b1 := ho.bel k m hk hlt
        cases h2 : Hm.both R i j m
        · have HS := hide (Hm.allB_yes (p := Hm.lubD R i j k) hlt (by simp [Hm.lubD, h2]))
          go_wp2_with fail
          refine (above_any _ _ _ _ _ _ _ _ _ _ ho hi hj hlt).mono ?_
          rintro e w' ⟨rfl, rfl⟩
          go_wp2_with fail
          go_round
          case rel => exact ⟨m + 1, by omega, by go_num, by rw [unhide HQ, unhide HS]⟩
          case measure => simp [intOf]; omega
        · cases h3 : R k m
          · have HS := hide (Hm.allB_no (p := Hm.lubD R i j k) hlt (by simp [Hm.lubD, h2, h3]))
            rw [h3] at b1
            go_wp2_with fail
            refine (above_any _ _ _ _ _ _ _ _ _ _ ho hi hj hlt).mono ?_
            rintro e w' ⟨rfl, rfl⟩
            go_wp2_with fail
            go_ret
            exact ⟨by rw [unhide HF, unhide HQ, unhide HS]; rfl, rfl⟩
          · have HS := hide (Hm.allB_yes (p := Hm.lubD R i j k) hlt (by simp [Hm.lubD, h3]))
            rw [h3] at b1
            go_wp2_with fail
            refine (above_any _ _ _ _ _ _ _ _ _ _ ho hi hj hlt).mono ?_
            rintro e w' ⟨rfl, rfl⟩
            go_wp2_with fail
            go_round
            case rel => exact ⟨m + 1, by omega, by go_num, by rw [unhide HQ, unhide HS]⟩
            case measure => simp [intOf]; omega
      · have HS := hide (Hm.allB_end (p := Hm.lubD R i j k) (n := n) (k := m) (by omega))
        go_wp2_with fail
        go_ret
        exact ⟨by rw [unhide HF, unhide HQ, unhide HS]; rfl, rfl⟩

set_option maxHeartbeats 400000 in
theorem Join_any (w : World) (o g cap n i j : Nat) (rb : Nat → Nat) (R : Nat → Nat → Bool) (hn : n ≤ 8) (ho : Ord w o g cap n rb R) (hi : i < n) (hj : j < n) :
    Calls Try.prog 34 #[.pointer (some ⟨o, 0, none⟩), .int .i64 (i : Int), .int .i64 (j : Int)] w fun e w' => e = .returned (.int .i64 (Hm.joinI R n i j)) ∧ w' = w := by
  have hc := ho.cn
  have HF := hide (show Hm.joinI R n i j = Hm.firstB (Hm.lub R n i j) n 0 from rfl)
  go_enter Try.func34, Try.ntmps34
  go_wp2_with fail
  go_loop [7] (fun d => ∃ m : Nat, m ≤ n ∧ d = .int .i64 (m : Int) ∧ Hm.firstB (Hm.lub R n i j) n 0 = Hm.firstB (Hm.lub R n i j) (n - m) m) (fun d => n - (intOf d).toNat)
  case atStart => exact ⟨0, Nat.zero_le _, rfl, rfl⟩
  case round =>
    obtain ⟨m, hm, rfl, hq⟩ := hrel
    have HQ := hide hq
    clear hq
    by_cases hlt : m < n
    · cases h2 : Hm.lub R n i j m
      · have HS := hide (Hm.firstB_no (p := Hm.lub R n i j) hlt h2)
        go_wp2_with fail
        refine (least_any _ _ _ _ _ _ _ _ _ _ hn ho hi hj hlt).mono ?_
        rintro e w' ⟨rfl, rfl⟩
        go_wp2_with fail
        go_round
        case rel => exact ⟨m + 1, by omega, by go_num, by rw [unhide HQ, unhide HS]⟩
        case measure => simp [intOf]; omega
      · have HS := hide (Hm.firstB_yes (p := Hm.lub R n i j) hlt h2)
        go_wp2_with fail
        refine (least_any _ _ _ _ _ _ _ _ _ _ hn ho hi hj hlt).mono ?_
        rintro e w' ⟨rfl, rfl⟩
        go_wp2_with fail
        go_ret
        exact ⟨by rw [unhide HF, unhide HQ, unhide HS]; rfl, rfl⟩
    · have HS := hide (Hm.firstB_end (p := Hm.lub R n i j) (n := n) (k := m) (by omega))
      go_wp2_with fail
      go_ret
      exact ⟨by rw [unhide HF, unhide HQ, unhide HS]; rfl, rfl⟩

set_option maxHeartbeats 400000 in
theorem greatest_any (w : World) (o g cap n i j k : Nat) (rb : Nat → Nat) (R : Nat → Nat → Bool) (hn : n ≤ 8) (ho : Ord w o g cap n rb R) (hi : i < n) (hj : j < n) (hk : k < n) :
    Calls Try.prog 65 #[.pointer (some ⟨o, 0, none⟩), .int .i64 (i : Int), .int .i64 (j : Int), .int .i64 (k : Int)] w fun e w' => e = .returned (.bool (Hm.glb R n i j k)) ∧ w' = w := by
  have hc := ho.cn
  have hb := ho.cb
  have r1 := ho.row k hk
  have b1 := ho.bel k i hk hi
  have b2 := ho.bel k j hk hj
  cases h1 : R k i
  · have HF := hide (show Hm.glb R n i j k = false by simp [Hm.glb, h1])
    rw [h1] at b1
    go_enter Try.func65, Try.ntmps65
    go_wp2_with fail
    go_ret
    exact ⟨by rw [unhide HF]; rfl, rfl⟩
  rw [h1] at b1
  cases h2 : R k j
  · have HF := hide (show Hm.glb R n i j k = false by simp [Hm.glb, h2])
    rw [h2] at b2
    go_enter Try.func65, Try.ntmps65
    go_wp2_with fail
    go_ret
    exact ⟨by rw [unhide HF]; rfl, rfl⟩
  rw [h2] at b2
  have HF := hide (show Hm.glb R n i j k = Hm.allB (Hm.glbD R i j k) n 0 by simp [Hm.glb, h1, h2])
  go_enter Try.func65, Try.ntmps65
  go_wp2_with fail
  clear b1 b2 h1 h2
  go_loop [9] (fun d => ∃ m : Nat, m ≤ n ∧ d = .int .i64 (m : Int) ∧ Hm.allB (Hm.glbD R i j k) n 0 = Hm.allB (Hm.glbD R i j k) (n - m) m) (fun d => n - (intOf d).toNat)
  case atStart => exact ⟨0, Nat.zero_le _, rfl, rfl⟩
  case round =>
    obtain ⟨m, hm, rfl, hq⟩ := hrel
    have HQ := hide hq
    clear hq
    by_cases hlt : m < n
    · have r2 := ho.row m hlt
      have b1 := ho.bel m i hlt hi
      have b2 := ho.bel m j hlt hj
      have b3 := ho.bel m k hlt hk
      cases h1 : R m i
      · have HS := hide (Hm.allB_yes (p := Hm.glbD R i j k) hlt (by simp [Hm.glbD, h1]))
        rw [h1] at b1
        go_wp2_with fail
        go_round
        case rel => exact ⟨m + 1, by omega, by go_num, by rw [unhide HQ, unhide HS]⟩
        case measure => simp [intOf]; omega
      · rw [h1] at b1
        cases h2 : R m j
        · have HS := hide (Hm.allB_yes (p := Hm.glbD R i j k) hlt (by simp [Hm.glbD, h2]))
          rw [h2] at b2
          go_wp2_with fail
          go_round
          case rel => exact ⟨m + 1, by omega, by go_num, by rw [unhide HQ, unhide HS]⟩
          case measure => simp [intOf]; omega
        · rw [h2] at b2
          cases h3 : R m k
          · have HS := hide (Hm.allB_no (p := Hm.glbD R i j k) hlt (by simp [Hm.glbD, h1, h2, h3]))
            rw [h3] at b3
            go_wp2_with fail
            go_ret
            exact ⟨by rw [unhide HF, unhide HQ, unhide HS]; rfl, rfl⟩
          · have HS := hide (Hm.allB_yes (p := Hm.glbD R i j k) hlt (by simp [Hm.glbD, h3]))
            rw [h3] at b3
            go_wp2_with fail
            go_round
            case rel => exact ⟨m + 1, by omega, by go_num, by rw [unhide HQ, unhide HS]⟩
            case measure => simp [intOf]; omega
    · have HS := hide (Hm.allB_end (p := Hm.glbD R i j k) (n := n) (k := m) (by omega))
      go_wp2_with fail
      go_ret
      exact ⟨by rw [unhide HF, unhide HQ, unhide HS]; rfl, rfl⟩

set_option maxHeartbeats 400000 in
theorem meets_any (w : World) (o g cap n i j : Nat) (rb : Nat → Nat) (R : Nat → Nat → Bool) (hn : n ≤ 8) (ho : Ord w o g cap n rb R) (hi : i < n) (hj : j < n) :
    Calls Try.prog 48 #[.pointer (some ⟨o, 0, none⟩), .int .i64 (i : Int), .int .i64 (j : Int)] w fun e w' => e = .returned (.bool (Hm.meets R n i j)) ∧ w' = w := by
  have hc := ho.cn
  have HF := hide (show Hm.meets R n i j = Hm.anyB (Hm.glb R n i j) n 0 from rfl)
  go_enter Try.func48, Try.ntmps48
  go_wp2_with fail
  go_loop [7] (fun d => ∃ m : Nat, m ≤ n ∧ d = .int .i64 (m : Int) ∧ Hm.anyB (Hm.glb R n i j) n 0 = Hm.anyB (Hm.glb R n i j) (n - m) m) (fun d => n - (intOf d).toNat)
  case atStart => exact ⟨0, Nat.zero_le _, rfl, rfl⟩
  case round =>
    obtain ⟨m, hm, rfl, hq⟩ := hrel
    have HQ := hide hq
    clear hq
    by_cases hlt : m < n
    · cases h2 : Hm.glb R n i j m
      · have HS := hide (Hm.anyB_no (p := Hm.glb R n i j) hlt h2)
        go_wp2_with fail
        refine (greatest_any _ _ _ _ _ _ _ _ _ _ hn ho hi hj hlt).mono ?_
        rintro e w' ⟨rfl, rfl⟩
        go_wp2_with fail
        go_round
        case rel => exact ⟨m + 1, by omega, by go_num, by rw [unhide HQ, unhide HS]⟩
        case measure => simp [intOf]; omega
      · have HS := hide (Hm.anyB_yes (p := Hm.glb R n i j) hlt h2)
        go_wp2_with fail
        refine (greatest_any _ _ _ _ _ _ _ _ _ _ hn ho hi hj hlt).mono ?_
        rintro e w' ⟨rfl, rfl⟩
        go_wp2_with fail
        go_ret
        exact ⟨by rw [unhide HF, unhide HQ, unhide HS]; rfl, rfl⟩
    · have HS := hide (Hm.anyB_end (p := Hm.glb R n i j) (n := n) (k := m) (by omega))
      go_wp2_with fail
      go_ret
      exact ⟨by rw [unhide HF, unhide HQ, unhide HS]; rfl, rfl⟩

end Go.Proofs.Ytegnagenjoelkaa

namespace Go.Proofs.Ytegnagenjoelkaa
open Go.RowKit

theorem wellRow_circle {R : Nat → Nat → Bool} {n a m : Nat} (h0 : ((a : Int) != (m : Int)) = true) (h1 : R a m = true) (h2 : R m a = true) : Hm.wellRow R n a m = false := by
  have : a ≠ m := by intro e; subst e; simp at h0
  simp [Hm.wellRow, h1, h2, this]
theorem wellRow_join {R : Nat → Nat → Bool} {n a m : Nat} (h3 : decide (Hm.joinI R n a m < 0) = true) : Hm.wellRow R n a m = false := by
  unfold Hm.wellRow; rw [h3]; simp
theorem wellRow_meet {R : Nat → Nat → Bool} {n a m : Nat} (h4 : Hm.meets R n a m = false) : Hm.wellRow R n a m = false := by
  unfold Hm.wellRow; rw [h4]; simp
theorem wellRow_ok0 {R : Nat → Nat → Bool} {n a m : Nat} (h0 : ((a : Int) != (m : Int)) = false) (h3 : decide (Hm.joinI R n a m < 0) = false) (h4 : Hm.meets R n a m = true) : Hm.wellRow R n a m = true := by
  have h0' : (a : Int) = (m : Int) := by simpa using h0
  have : a = m := by omega
  unfold Hm.wellRow; rw [h3, h4]; simp [this]
theorem wellRow_ok1 {R : Nat → Nat → Bool} {n a m : Nat} (h1 : R a m = false) (h3 : decide (Hm.joinI R n a m < 0) = false) (h4 : Hm.meets R n a m = true) : Hm.wellRow R n a m = true := by
  unfold Hm.wellRow; rw [h3, h4]; simp [h1]
theorem wellRow_ok2 {R : Nat → Nat → Bool} {n a m : Nat} (h1 : R m a = false) (h3 : decide (Hm.joinI R n a m < 0) = false) (h4 : Hm.meets R n a m = true) : Hm.wellRow R n a m = true := by
  unfold Hm.wellRow; rw [h3, h4]; simp [h1]

set_option maxHeartbeats 1000000 in
theorem well_any (w : World) (o g cap n : Nat) (rb : Nat → Nat) (R : Nat → Nat → Bool) (hn : n ≤ 8) (ho : Ord w o g cap n rb R) :
    Calls Try.prog 31 #[.pointer (some ⟨o, 0, none⟩)] w fun e w' => e = .returned (.bool (Hm.wellR R n)) ∧ w' = w := by
  have hc := ho.cn
  have hb := ho.cb
  have HF := hide (show Hm.wellR R n = Hm.allB (Hm.wellLine R n) n 0 from rfl)
  go_enter Try.func31, Try.ntmps31
  go_wp2_with fail
  go_loop [3] (fun d => ∃ a : Nat, a ≤ n ∧ d = .int .i64 (a : Int) ∧ Hm.allB (Hm.wellLine R n) n 0 = Hm.allB (Hm.wellLine R n) (n - a) a) (fun d => n - (intOf d).toNat)
  case atStart => exact ⟨0, Nat.zero_le _, rfl, rfl⟩
  case round =>
    obtain ⟨a, ha, rfl, hq⟩ := hrel
    have HQ := hide hq
    clear hq
    by_cases hlt : a < n
    · have HY := hide (fun h => Hm.allB_yes (p := Hm.wellLine R n) hlt h)
      have HN := hide (fun h => Hm.allB_no (p := Hm.wellLine R n) hlt h)
      have HG := hide (show Hm.wellLine R n a = Hm.allB (Hm.wellRow R n a) n 0 from rfl)
      have r1 := ho.row a hlt
      go_wp2_with fail
      go_loop [4] (fun d => ∃ m : Nat, m ≤ n ∧ d = .int .i64 (m : Int) ∧ Hm.allB (Hm.wellRow R n a) n 0 = Hm.allB (Hm.wellRow R n a) (n - m) m) (fun d => n - (intOf d).toNat)
      case atStart => exact ⟨0, Nat.zero_le _, rfl, rfl⟩
      case round =>
        obtain ⟨m, hm, rfl, hq⟩ := hrel
        have HP := hide hq
        clear hq
        by_cases hlm : m < n
        · have r2 := ho.row m hlm
          have b1 := ho.bel a m hlt hlm
          have b2 := ho.bel m a hlm hlt
          have HSY := hide (fun h => Hm.allB_yes (p := Hm.wellRow R n a) hlm h)
          have HSN := hide (fun h => Hm.allB_no (p := Hm.wellRow R n a) hlm h)
          cases h0 : ((a : Int) != (m : Int))
          · cases h3 : decide (Hm.joinI R n a m < 0)
            · cases h4 : Hm.meets R n a m
              · go_wp2_with fail
                refine (Join_any _ _ _ _ _ _ _ _ _ hn ho hlt hlm).mono ?_
                rintro e w' ⟨rfl, rfl⟩
                go_wp2_with fail
                refine (meets_any _ _ _ _ _ _ _ _ _ hn ho hlt hlm).mono ?_
                rintro e w' ⟨rfl, rfl⟩
                go_wp2_with fail
                go_ret
                exact ⟨by rw [unhide HF, unhide HQ, unhide HN (by rw [unhide HG, unhide HP, unhide HSN (wellRow_meet h4)])]; rfl, rfl⟩
              · have hw := wellRow_ok0 h0 h3 h4
                go_wp2_with fail
                refine (Join_any _ _ _ _ _ _ _ _ _ hn ho hlt hlm).mono ?_
                rintro e w' ⟨rfl, rfl⟩
                go_wp2_with fail
                refine (meets_any _ _ _ _ _ _ _ _ _ hn ho hlt hlm).mono ?_
                rintro e w' ⟨rfl, rfl⟩
                go_wp2_with fail
                go_round
                case rel => exact ⟨m + 1, by omega, by go_num, by rw [unhide HP, unhide HSY hw]⟩
                case measure => simp [intOf]; omega
            · go_wp2_with fail
              refine (Join_any _ _ _ _ _ _ _ _ _ hn ho hlt hlm).mono ?_
              rintro e w' ⟨rfl, rfl⟩
              go_wp2_with fail
              go_ret
              exact ⟨by rw [unhide HF, unhide HQ, unhide HN (by rw [unhide HG, unhide HP, unhide HSN (wellRow_join h3)])]; rfl, rfl⟩
          · cases h1 : R a m
            · rw [h1] at b1
              cases h3 : decide (Hm.joinI R n a m < 0)
              · cases h4 : Hm.meets R n a m
                · go_wp2_with fail
                  refine (Join_any _ _ _ _ _ _ _ _ _ hn ho hlt hlm).mono ?_
                  rintro e w' ⟨rfl, rfl⟩
                  go_wp2_with fail
                  refine (meets_any _ _ _ _ _ _ _ _ _ hn ho hlt hlm).mono ?_
                  rintro e w' ⟨rfl, rfl⟩
                  go_wp2_with fail
                  go_ret
                  exact ⟨by rw [unhide HF, unhide HQ, unhide HN (by rw [unhide HG, unhide HP, unhide HSN (wellRow_meet h4)])]; rfl, rfl⟩
                · have hw := wellRow_ok1 h1 h3 h4
                  go_wp2_with fail
                  refine (Join_any _ _ _ _ _ _ _ _ _ hn ho hlt hlm).mono ?_
                  rintro e w' ⟨rfl, rfl⟩
                  go_wp2_with fail
                  refine (meets_any _ _ _ _ _ _ _ _ _ hn ho hlt hlm).mono ?_
                  rintro e w' ⟨rfl, rfl⟩
                  go_wp2_with fail
                  go_round
                  case rel => exact ⟨m + 1, by omega, by go_num, by rw [unhide HP, unhide HSY hw]⟩
                  case measure => simp [intOf]; omega
              · go_wp2_with fail
                refine (Join_any _ _ _ _ _ _ _ _ _ hn ho hlt hlm).mono ?_
                rintro e w' ⟨rfl, rfl⟩
                go_wp2_with fail
                go_ret
                exact ⟨by rw [unhide HF, unhide HQ, unhide HN (by rw [unhide HG, unhide HP, unhide HSN (wellRow_join h3)])]; rfl, rfl⟩
            · rw [h1] at b1
              cases h2 : R m a
              · rw [h2] at b2
                cases h3 : decide (Hm.joinI R n a m < 0)
                · cases h4 : Hm.meets R n a m
                  · go_wp2_with fail
                    refine (Join_any _ _ _ _ _ _ _ _ _ hn ho hlt hlm).mono ?_
                    rintro e w' ⟨rfl, rfl⟩
                    go_wp2_with fail
                    refine (meets_any _ _ _ _ _ _ _ _ _ hn ho hlt hlm).mono ?_
                    rintro e w' ⟨rfl, rfl⟩
                    go_wp2_with fail
                    go_ret
                    exact ⟨by rw [unhide HF, unhide HQ, unhide HN (by rw [unhide HG, unhide HP, unhide HSN (wellRow_meet h4)])]; rfl, rfl⟩
                  · have hw := wellRow_ok2 h2 h3 h4
                    go_wp2_with fail
                    refine (Join_any _ _ _ _ _ _ _ _ _ hn ho hlt hlm).mono ?_
                    rintro e w' ⟨rfl, rfl⟩
                    go_wp2_with fail
                    refine (meets_any _ _ _ _ _ _ _ _ _ hn ho hlt hlm).mono ?_
                    rintro e w' ⟨rfl, rfl⟩
                    go_wp2_with fail
                    go_round
                    case rel => exact ⟨m + 1, by omega, by go_num, by rw [unhide HP, unhide HSY hw]⟩
                    case measure => simp [intOf]; omega
                · go_wp2_with fail
                  refine (Join_any _ _ _ _ _ _ _ _ _ hn ho hlt hlm).mono ?_
                  rintro e w' ⟨rfl, rfl⟩
                  go_wp2_with fail
                  go_ret
                  exact ⟨by rw [unhide HF, unhide HQ, unhide HN (by rw [unhide HG, unhide HP, unhide HSN (wellRow_join h3)])]; rfl, rfl⟩
              · rw [h2] at b2
                go_wp2_with fail
                go_ret
                exact ⟨by rw [unhide HF, unhide HQ, unhide HN (by rw [unhide HG, unhide HP, unhide HSN (wellRow_circle h0 h1 h2)])]; rfl, rfl⟩
        · have HS := hide (Hm.allB_end (p := Hm.wellRow R n a) (n := n) (k := m) (by omega))
          go_wp2_with fail
          go_round
          case rel => exact ⟨a + 1, by omega, by go_num, by rw [unhide HQ, unhide HY (by rw [unhide HG, unhide HP, unhide HS])]⟩
          case measure => simp [intOf]; omega
    · have HS := hide (Hm.allB_end (p := Hm.wellLine R n) (n := n) (k := a) (by omega))
      go_wp2_with fail
      go_ret
      exact ⟨by rw [unhide HF, unhide HQ, unhide HS]; rfl, rfl⟩

end Go.Proofs.Ytegnagenjoelkaa

namespace Go.Proofs.Ytegnagenjoelkaa
open Go.RowKit

/-- What the document's Read answers, and what it leaves in memory. -/
def ReadAns (s : ByteArray) (B : Nat) (e : Ending) (w' : World) : Prop :=
  ∃ (a p : Int) (n : Nat), ReadPost s a p n ∧
    ((a ≠ 0 ∧ e = .returned (.tuple #[.pointer none, .int .i64 a, .int .i64 p])) ∨
     (a = 0 ∧ p = 0 ∧ 1 ≤ n ∧ n ≤ 8 ∧ ∃ o g cap rb, B ≤ o ∧ Ord w' o g cap n rb (cl s n) ∧ e = .returned (.tuple #[.pointer (some ⟨o, 0, none⟩), .int .i64 0, .int .i64 0])))

theorem Grid.ord {w : World} {B g cap n : Nat} {rb : Nat → Nat} {F : Nat → Nat → Bool} (h : Grid w B g n rb F) (t : TypeId) :
    Ord (w.alloc (.cells #[.int .i64 n, .slice (some ⟨g, 0, none⟩) n cap] t)) w.heap.size g cap n rb F := by
  have hold : ∀ a v, w.cell? a = some v → (w.alloc (.cells #[.int .i64 n, .slice (some ⟨g, 0, none⟩) n cap] t)).cell? a = some v := by
    intro a v hv
    rw [World.cell?_of_block (w := w) (Below.heap_alloc w _ _ (World.block_lt_of_cell? w a hv))]
    exact hv
  exact ⟨by simp, by simp, fun i hi => hold _ _ (h.out i hi), fun i j hi hj => hold _ _ (h.cell hi hj)⟩

set_option maxHeartbeats 1000000 in
theorem Read_any (w : World) (s : ByteArray) :
    Calls Try.prog 13 #[.string s] w fun e w' => ReadAns s w.heap.size e w' ∧ Below w.heap.size w w' := by
  by_cases h : s.size ≤ 65
  · have hgt : decide ((65 : Int) < (s.size : Int)) = false := by simp; omega
    have HW : Hid (∀ w, Calls Try.prog 29 #[.string s] w fun e w' => WrittenPost s e ∧ w' = w) := by
      intro w
      by_cases hf : ∃ n, FirstOk s n
      · obtain ⟨n, hf⟩ := hf
        exact written_ok w s n hf h
      · exact written_bad0 w s (fun n hn => hf ⟨n, hn⟩)
    go_enter Try.func13, Try.ntmps13
    go_wp2_with fail
    refine (unhide HW _).mono ?_
    rintro e w' ⟨hp, rfl⟩
    rcases hp with ⟨k, x, hk, rfl⟩ | ⟨n, hgd, rfl⟩
    · have HK := hide hk
      clear hk
      go_wp2_with fail
      go_ret3
      exact ⟨⟨2, k, 0, Or.inr (Or.inl ⟨h, k, unhide HK, rfl, rfl, rfl⟩), Or.inl ⟨by omega, rfl⟩⟩, Below.refl _ _⟩
    · have HGD := hide hgd
      have h1 : 1 ≤ n := hgd.1.2.2.1
      have h8 : n ≤ 8 := hgd.1.2.2.2
      clear hgd
      go_wp2_with fail
      refine (closed_any _ _ _ h1 h8 h (unhide HGD)).mono ?_
      rintro e w1 ⟨⟨g, cap, rb, rfl, hgr⟩, hb⟩
      have HGR := hide hgr
      clear hgr
      have HO := hide (fun t => (unhide HGR).ord (cap := cap) t)
      go_wp2_with fail
      refine (well_any _ _ _ _ _ _ _ h8 (unhide HO _)).mono ?_
      rintro e w' ⟨rfl, rfl⟩
      cases hw : Hm.wellR (cl s n) n
      · have HP : Hid (ReadPost s 3 0 0) := Or.inr (Or.inr (Or.inl ⟨h, n, unhide HGD, hw, rfl, rfl, rfl⟩))
        go_wp2_with fail
        go_ret3
        exact ⟨⟨3, 0, 0, unhide HP, Or.inl ⟨by omega, rfl⟩⟩, hb.trans ((Below.refl _ _).alloc hb.size _)⟩
      · have HP : Hid (ReadPost s 0 0 n) := Or.inr (Or.inr (Or.inr ⟨h, unhide HGD, hw, rfl, rfl⟩))
        go_wp2_with fail
        go_ret3
        exact ⟨⟨0, 0, n, unhide HP, Or.inr ⟨rfl, rfl, h1, h8, w1.heap.size, g, cap, rb, hb.size, unhide HO _, rfl⟩⟩, hb.trans ((Below.refl _ _).alloc hb.size _)⟩
  · have hgt : (65 : Int) < (s.size : Int) := by omega
    have HP : Hid (ReadPost s 1 0 0) := Or.inl ⟨by omega, rfl, rfl, rfl⟩
    go_enter Try.func13, Try.ntmps13
    go_wp2_with fail
    go_ret3
    exact ⟨⟨1, 0, 0, unhide HP, Or.inl ⟨by omega, rfl⟩⟩, Below.refl _ _⟩

end Go.Proofs.Ytegnagenjoelkaa

namespace Go.Proofs.Ytegnagenjoelkaa
open Go.RowKit

/-- The procedures: where the reader stands, whether it is stuck, the calls, the places of the procedures' statements. -/
def scPr (c : Nat → Int) (nv N sz f : Nat) : Nat → Nat → List Nat → List Nat → Nat × Bool × List Nat × List Nat
  | 0, i, C, P => (i, true, C, P)
  | g + 1, i, C, P =>
    if i < sz then
      (if c i = 59 ∧ P.length < 4 then
        (if (scS c nv N f (i + 1) C).2.1 = true then ((scS c nv N f (i + 1) C).1, true, (scS c nv N f (i + 1) C).2.2, P ++ [i + 1])
         else scPr c nv N sz f g (scS c nv N f (i + 1) C).1 (scS c nv N f (i + 1) C).2.2 (P ++ [i + 1]))
       else (i, true, C, P))
    else (i, false, C, P)
/-- The whole text. -/
def parseAll (c : Nat → Int) (N sz : Nat) : Nat × Bool × List Nat × List Nat :=
  if c (nvOf c N) = 58 then
    (if (scS c (nvOf c N) N (sz + 1) (nvOf c N + 1) []).2.1 = true then ((scS c (nvOf c N) N (sz + 1) (nvOf c N + 1) []).1, true, (scS c (nvOf c N) N (sz + 1) (nvOf c N + 1) []).2.2, [])
     else scPr c (nvOf c N) N sz (sz + 1) 5 (scS c (nvOf c N) N (sz + 1) (nvOf c N + 1) []).1 (scS c (nvOf c N) N (sz + 1) (nvOf c N + 1) []).2.2 [])
  else (nvOf c N, true, [], [])
/-- The first call of a procedure that is not there. -/
def badCall (c : Nat → Int) (n : Nat) : List Nat → Option Nat
  | [] => none
  | k :: r => if (n : Int) ≤ dgt (c k) 4 then some k else badCall c n r
def prA (s : ByteArray) (N : Nat) : Nat × Bool × List Nat × List Nat := parseAll (bt s) N s.size
def prC (s : ByteArray) (N : Nat) : Option Nat := badCall (bt s) (prA s N).2.2.2.length (prA s N).2.2.1
/-- The error, the place. -/
def prE (s : ByteArray) (N : Nat) : Int := if 300 < s.size then 1 else if (prA s N).2.1 = true then 4 else if (prC s N).isSome = true then 5 else 0
def prP (s : ByteArray) (N : Nat) : Int := if 300 < s.size then 0 else if (prA s N).2.1 = true then ((prA s N).1 : Int) else match prC s N with | some k => (k : Int) | none => 0
def prNv (s : ByteArray) (N : Nat) : Nat := nvOf (bt s) N
def prPs (s : ByteArray) (N : Nat) : List Nat := (prA s N).2.2.2

/-- The cells of a Prog. -/
def pgC (o : Value) (s : ByteArray) (main : Nat) (pv fl : Value) : Array Value := #[o, .string s, .int .i64 (main : Int), pv, fl]
/-- A Prog being read, beside its Scan. -/
structure PI (w0 w : World) (cb pb : Nat) (o : Value) (s : ByteArray) (i : Nat) (bad : Bool) (N nv : Nat) (C : List Nat) (v : Value) (main : Nat) (P : List Nat) (pv fl : Value) : Prop where
  sc : ScnC w (w0.heap.size + 2) cb s i bad N nv C v
  pr : w.heap[pb]? = some (.cells (pgC o s main pv fl) 58 (0, 0))
  pown : w.ownsRow (w0.heap.size + 2) 3 1 pv P.length (cells P)
  fown : w.ownsRow (w0.heap.size + 2) 3 1 fl nv (fixL (bt s) N nv)
  s1 : v.ownBlock = none ∨ v.ownBlock ≠ pv.ownBlock
  s2 : v.ownBlock = none ∨ v.ownBlock ≠ fl.ownBlock
  s3 : pv.ownBlock = none ∨ pv.ownBlock ≠ fl.ownBlock
  bel : Below w0.heap.size w0 w
  e1 : cb = w0.heap.size
  e2 : pb = w0.heap.size + 1

variable {w0 w w' w'' : World} {cb pb : Nat} {o : Value} {s : ByteArray} {i : Nat} {bad : Bool} {N nv : Nat} {C : List Nat} {v : Value} {main : Nat} {P : List Nat} {pv fl : Value}

theorem below_drewN2 {B : Nat} {a w : World} (h : Below B a w) (q : Nat) : Below B a (w.drewN q) := ⟨h.os, h.tape, h.output, h.size, h.block⟩
theorem ownsRow_keep {w w' : World} {B n : Nat} {e : TypeId} {l : Value} {xs : List Value} (h : w.ownsRow B e 1 l n xs) (hb : ∀ g, l.ownBlock = some g → w'.heap[g]? = w.heap[g]?) : w'.ownsRow B e 1 l n xs := by
  refine ⟨h.1, ?_⟩
  rcases h.2 with hn | ⟨g, cap, cur, rfl, hb0, hg, rest⟩
  · exact Or.inl hn
  · exact Or.inr ⟨g, cap, cur, rfl, hb0, (hb g rfl).trans hg, rest⟩

/-- Behind a statement. -/
theorem PI.stmt {r : Nat × Bool × List Nat} (h : PI w0 w cb pb o s i bad N nv C v main P pv fl) (k : SSt w (w0.heap.size + 2) cb s N nv v r w') : ∃ v', PI w0 w' cb pb o s r.1 r.2.1 N nv r.2.2 v' main P pv fl := by
  obtain ⟨v', k1, k2, k3⟩ := k
  have hcp : pb ≠ cb := by have := h.e1; have := h.e2; omega
  have hpb : pb < w.heap.size := (Array.getElem?_eq_some_iff.1 h.pr).1
  have hvp : some pb ≠ v.ownBlock := fun e => by have := (h.sc.own.lt pb e.symm).1; have := h.e2; omega
  have kb : ∀ (l : Value) (n : Nat) (xs : List Value), w.ownsRow (w0.heap.size + 2) 3 1 l n xs → (v.ownBlock = none ∨ v.ownBlock ≠ l.ownBlock) → ∀ g, l.ownBlock = some g → w'.heap[g]? = w.heap[g]? := by
    intro l n xs hl hne g hg
    have hlt := hl.lt g hg
    refine k2.block g hlt.2 (by have := h.e1; omega) (fun e => ?_)
    rcases hne with hn | hn
    · rw [hn] at e; cases e
    · exact hn (by rw [← e, hg])
  have sep : ∀ (l : Value) (n : Nat) (xs : List Value), w.ownsRow (w0.heap.size + 2) 3 1 l n xs → (v.ownBlock = none ∨ v.ownBlock ≠ l.ownBlock) → (v'.ownBlock = none ∨ v'.ownBlock ≠ l.ownBlock) := by
    intro l n xs hl hne
    rcases k3 with e | e
    · rw [e]; exact hne
    · cases ev : v'.ownBlock with
      | none => exact Or.inl rfl
      | some g =>
        right
        intro e'
        have h1 := e g ev
        have h2 := (hl.lt g e'.symm).2
        omega
  exact ⟨v', k1, (k2.block pb hpb hcp hvp).trans h.pr, ownsRow_keep h.pown (kb pv _ _ h.pown h.s1), ownsRow_keep h.fown (kb fl _ _ h.fown h.s2), sep pv _ _ h.pown h.s1, sep fl _ _ h.fown h.s2, h.s3,
    h.bel.trans (k2.below (by have := h.bel.size; omega) (by have := h.e1; omega) (fun g hg => by have := (h.sc.own.lt g hg).1; omega)), h.e1, h.e2⟩
theorem PI.c0 (h : PI w0 w cb pb o s i bad N nv C v main P pv fl) : w.cell? ⟨pb, 0, none⟩ = some o := by rw [cell_of_row w pb 0 _ _ _ h.pr]; rfl
theorem PI.c3 (h : PI w0 w cb pb o s i bad N nv C v main P pv fl) : w.cell? ⟨pb, 3, none⟩ = some pv := by rw [cell_of_row w pb 3 _ _ _ h.pr]; rfl
theorem PI.fz (h : PI w0 w cb pb o s i bad N nv C v main P pv fl) (j : Nat) : w.frozen? ⟨pb, j, none⟩ = false := frozen_of_row w pb j _ _ h.pr
/-- Behind a turn of the Scan alone. -/
theorem PI.scan {r : Nat × Bool} (h : PI w0 w cb pb o s i bad N nv C v main P pv fl) (k : ScTo w cb s N nv v r w') : PI w0 w' cb pb o s r.1 r.2 N nv C v main P pv fl := by
  have h1 := k.sst h.sc
  obtain ⟨v', h2⟩ := h.stmt h1
  have e : v' = v := by
    have a1 := h2.sc.sc.c5
    have a2 := (k.scn h.sc.sc).c5
    rw [a1] at a2
    exact Option.some.inj a2
  subst e
  exact h2
theorem PI.drewN (h : PI w0 w cb pb o s i bad N nv C v main P pv fl) (q : Nat) : PI w0 (w.drewN q) cb pb o s i bad N nv C v main P pv fl :=
  ⟨⟨h.sc.sc, h.sc.own⟩, h.pr, h.pown, h.fown, h.s1, h.s2, h.s3, below_drewN2 h.bel q, h.e1, h.e2⟩

/-- One procedure more. -/
theorem PI.push {w1 : World} {gg cap : Nat} (h : PI w0 w cb pb o s i bad N nv C v main P pv fl)
    (hown1 : w1.ownsRow (w0.heap.size + 2) 3 1 (.slice (some ⟨gg, 0, none⟩) (P.length + 1) cap) (P.length + 1) (cells P ++ [.int .i64 (i : Int)]))
    (hgrow : (w.alloc (.cells #[.int .i64 (i : Int)] 3)).drew.grownBy w1 pv.ownBlock) (hat : pv.ownBlock = some gg ∨ gg = w.heap.size + 1) :
    PI w0 (w1.setCell ⟨pb, 3, none⟩ (.slice (some ⟨gg, 0, none⟩) (P.length + 1) cap)) cb pb o s i bad N nv C v main (P ++ [i]) (.slice (some ⟨gg, 0, none⟩) (P.length + 1) cap) fl := by
  have hsz : (w.alloc (.cells #[.int .i64 (i : Int)] 3)).drew.heap.size = w.heap.size + 1 := by simp
  have hws := h.bel.size
  have e1 := h.e1
  have e2 := h.e2
  have hpb : pb < w.heap.size := (Array.getElem?_eq_some_iff.1 h.pr).1
  have hcb : cb < w.heap.size := by omega
  have hpp : ∀ j, pv.ownBlock = some j → w0.heap.size + 2 ≤ j := fun j hj => (h.pown.lt j hj).1
  have hb1 : ∀ k, k < w.heap.size → some k ≠ pv.ownBlock → w1.heap[k]? = w.heap[k]? := fun k hk hne =>
    (hgrow.block k (by omega) hne).trans (Below.heap_alloc w _ k hk)
  have hpr1 : w1.heap[pb]? = some (.cells (pgC o s main pv fl) 58 (0, 0)) := (hb1 pb hpb (fun e => by have := hpp pb e.symm; omega)).trans h.pr
  have hset : w1.setCell ⟨pb, 3, none⟩ (.slice (some ⟨gg, 0, none⟩) (P.length + 1) cap) = w1.setRow pb (pgC o s main (.slice (some ⟨gg, 0, none⟩) (P.length + 1) cap) fl) := by
    rw [setCell_eq_setRow w1 pb _ _ _ _ _ hpr1]; rfl
  rw [hset]
  have hgg := hown1.lt gg rfl
  have hb2 : ∀ k, k ≠ pb → (w1.setRow pb (pgC o s main (.slice (some ⟨gg, 0, none⟩) (P.length + 1) cap) fl)).heap[k]? = w1.heap[k]? := fun k hk => setRow_other w1 pb k _ hk
  have kb : ∀ (l : Value) (n : Nat) (xs : List Value), w.ownsRow (w0.heap.size + 2) 3 1 l n xs → (l.ownBlock = none ∨ l.ownBlock ≠ pv.ownBlock) → ∀ g, l.ownBlock = some g → (w1.setRow pb (pgC o s main (.slice (some ⟨gg, 0, none⟩) (P.length + 1) cap) fl)).heap[g]? = w.heap[g]? := by
    intro l n xs hl hne g hg
    have hlt := hl.lt g hg
    refine (hb2 g (by omega)).trans (hb1 g hlt.2 (fun e => ?_))
    rcases hne with hn | hn
    · rw [hn] at hg; cases hg
    · exact hn (hg.trans e)
  have sep : ∀ (l : Value) (n : Nat) (xs : List Value), w.ownsRow (w0.heap.size + 2) 3 1 l n xs → (l.ownBlock = none ∨ l.ownBlock ≠ pv.ownBlock) → l.ownBlock = none ∨ l.ownBlock ≠ some gg := by
    intro l n xs hl hne
    rcases hat with e | e
    · rw [← e]; exact hne
    · cases el : l.ownBlock with
      | none => exact Or.inl rfl
      | some g =>
        right
        intro e'
        have := (hl.lt g el).2
        simp at e'
        omega
  have s3' : fl.ownBlock = none ∨ fl.ownBlock ≠ pv.ownBlock := by
    rcases h.s3 with e | e
    · cases ef : fl.ownBlock with
      | none => exact Or.inl rfl
      | some g => exact Or.inr (by rw [e]; simp)
    · exact Or.inr (Ne.symm e)
  have hfs := sep fl _ _ h.fown s3'
  refine ⟨⟨?_, ownsRow_keep h.sc.own (kb v _ _ h.sc.own h.s1)⟩, setRow_heap w1 pb _ _ _ _ hpr1, ?_, ownsRow_keep h.fown (kb fl _ _ h.fown s3'), sep v _ _ h.sc.own h.s1, h.s2, ?_, ?_, e1, e2⟩
  · exact (hb2 cb (by omega)).trans ((hb1 cb hcb (fun e => by have := hpp cb e.symm; omega)).trans h.sc.sc)
  · have h3 := ownsRow_keep hown1 (w' := w1.setRow pb (pgC o s main (.slice (some ⟨gg, 0, none⟩) (P.length + 1) cap) fl)) (fun g hg => hb2 g (by simp [Value.ownBlock] at hg; omega))
    rw [cells_snoc] at h3
    simpa using h3
  · right
    intro e
    rcases hfs with e' | e'
    · rw [e'] at e; simp [Value.ownBlock] at e
    · exact e' e.symm
  · refine h.bel.trans ⟨hgrow.os, hgrow.tape, hgrow.output, by have := hgrow.size; simp at this ⊢; omega, fun k hk => (hb2 k (by omega)).trans (hb1 k (by omega) (fun e => by have := hpp k e.symm; omega))⟩

end Go.Proofs.Ytegnagenjoelkaa

namespace Go.Proofs.Ytegnagenjoelkaa

/-- Levels that are well ordered. -/
structure Lattice (n : Nat) (R : Nat → Nat → Bool) : Prop where
  refl : ∀ a, a < n → R a a = true
  trans : Trans n R
  anti : ∀ a b, a < n → b < n → R a b = true → R b a = true → a = b
  join : ∀ a b, a < n → b < n → ∃ c, c < n ∧ Hm.lub R n a b c = true

theorem cl_lattice (s : ByteArray) (n : Nat) (h : Hm.wellR (cl s n) n = true) : Lattice n (cl s n) := by
  rw [Hm.wellR_iff] at h
  refine ⟨fun a ha => wf_refl n _ n a ha, wf_trans n _, fun a b ha hb h1 h2 => ?_, fun a b ha hb => ((Hm.wellRow_iff _ _ _ _).1 (h a b ha hb)).2.1⟩
  have := ((Hm.wellRow_iff _ _ _ _).1 (h a b ha hb)).1
  by_cases e : a = b
  · exact e
  · exact absurd ⟨e, h1, h2⟩ this

variable {n : Nat} {R : Nat → Nat → Bool}

theorem Lattice.lub_uniq (L : Lattice n R) {a b c d : Nat} (hc : c < n) (hd : d < n) (h1 : Hm.lub R n a b c = true) (h2 : Hm.lub R n a b d = true) : c = d := by
  rw [Hm.lub_iff] at h1 h2
  exact L.anti c d hc hd (h1.2.2 d hd h2.1 h2.2.1) (h2.2.2 c hc h1.1 h1.2.1)
/-- The join, as a number. -/
theorem Lattice.joinN (L : Lattice n R) {a b : Nat} (ha : a < n) (hb : b < n) : ∃ c : Nat, c < n ∧ Hm.joinI R n a b = (c : Int) ∧ Hm.lub R n a b c = true := by
  obtain ⟨c, hc, h⟩ := L.join a b ha hb
  have hne := (Hm.joinI_ok_iff R n a b).2 ⟨c, hc, h⟩
  rcases Hm.firstB_spec (Hm.lub R n a b) n 0 with ⟨d, _, h2, h3, h4⟩ | ⟨h1, _⟩
  · exact ⟨d, by omega, h4, h3⟩
  · exact absurd h1 hne
theorem Lattice.join_of (L : Lattice n R) {a b c : Nat} (ha : a < n) (hb : b < n) (hc : c < n) (h : Hm.lub R n a b c = true) : Hm.joinI R n a b = (c : Int) := by
  obtain ⟨d, hd, h1, h2⟩ := L.joinN ha hb
  rw [h1, L.lub_uniq hd hc h2 h]

/-- All that Bounds asks of three levels. -/
theorem Lattice.bounds (L : Lattice n R) {a b c : Nat} (ha : a < n) (hb : b < n) (hc : c < n) :
    ∃ ab bc x : Nat, ab < n ∧ bc < n ∧ x < n ∧ Hm.joinI R n a b = (ab : Int) ∧ Hm.joinI R n b a = (ab : Int) ∧ Hm.joinI R n a a = (a : Int) ∧ Hm.joinI R n b c = (bc : Int) ∧
      Hm.joinI R n ab c = (x : Int) ∧ Hm.joinI R n a bc = (x : Int) ∧ Hm.joinI R n a ab = (ab : Int) ∧ R a ab = true ∧ R b ab = true := by
  obtain ⟨ab, hab, e1, l1⟩ := L.joinN ha hb
  obtain ⟨bc, hbc, e2, l2⟩ := L.joinN hb hc
  obtain ⟨x, hx, e3, l3⟩ := L.joinN hab hc
  have i1 := (Hm.lub_iff _ _ _ _ _).1 l1
  have i2 := (Hm.lub_iff _ _ _ _ _).1 l2
  have i3 := (Hm.lub_iff _ _ _ _ _).1 l3
  refine ⟨ab, bc, x, hab, hbc, hx, e1, L.join_of hb ha hab (Hm.lub_symm _ _ _ _ _ l1), L.join_of ha ha ha ?_, e2, e3, L.join_of ha hbc hx ?_, L.join_of ha hab hab ?_, i1.1, i1.2.1⟩
  · exact (Hm.lub_iff _ _ _ _ _).2 ⟨L.refl a ha, L.refl a ha, fun d _ h _ => h⟩
  · refine (Hm.lub_iff _ _ _ _ _).2 ⟨L.trans a ab x ha hab hx i1.1 i3.1, i2.2.2 x hx (L.trans b ab x hb hab hx i1.2.1 i3.1) i3.2.1, fun d hd h1 h2 => ?_⟩
    exact i3.2.2 d hd (i1.2.2 d hd h1 (L.trans b bc d hb hbc hd i2.1 h2)) (L.trans c bc d hc hbc hd i2.2.1 h2)
  · exact (Hm.lub_iff _ _ _ _ _).2 ⟨i1.1, L.refl ab hab, fun d _ _ h => h⟩

end Go.Proofs.Ytegnagenjoelkaa

namespace Go.Proofs.Ytegnagenjoelkaa

/-- The join and the bottom, as numbers. -/
def jn (R : Nat → Nat → Bool) (n a b : Nat) : Nat := (Hm.joinI R n a b).toNat
def bot (R : Nat → Nat → Bool) (n : Nat) : Nat := (Hm.firstB (fun a => Hm.allB (R a) n 0) n 0).toNat
theorem Lattice.jn_lt {n : Nat} {R : Nat → Nat → Bool} (L : Lattice n R) {a b : Nat} (ha : a < n) (hb : b < n) : jn R n a b < n ∧ Hm.joinI R n a b = (jn R n a b : Int) ∧ Hm.lub R n a b (jn R n a b) = true := by
  obtain ⟨c, h1, h2, h3⟩ := L.joinN ha hb
  have e : jn R n a b = c := by unfold jn; rw [h2]; rfl
  rw [e]; exact ⟨h1, h2, h3⟩
theorem bot_lt {n : Nat} {R : Nat → Nat → Bool} (h : 1 ≤ n) : bot R n < n := by
  unfold bot
  have := Hm.firstB_lt (fun a => Hm.allB (R a) n 0) n
  omega

/-- A labelling that is being looked at: the variables' levels, the procedures' contexts and throws; whether something was raised; the first bad place. -/
structure WS where
  V : Nat → Nat
  X : Nat → Nat
  T : Nat → Nat
  ra : Bool
  bad : Int
def setF (F : Nat → Nat) (k x : Nat) : Nat → Nat := fun j => if j = k then x else F j

section
variable (c : Nat → Int) (R : Nat → Nat → Bool) (n : Nat) (fx : Nat → Int) (low : Bool)

/-- An expression: where it ends, its label, the label of its divisors, whether there are any. -/
def labE (V : Nat → Nat) : Nat → Nat → Nat × Nat × Nat × Bool
  | 0, i => (i, bot R n, bot R n, false)
  | f + 1, i =>
    if isOp (c i) = true then
      ((labE V f (labE V f (i + 1)).1).1, jn R n (labE V f (i + 1)).2.1 (labE V f (labE V f (i + 1)).1).2.1,
        (if c i = 47 then jn R n (jn R n (labE V f (i + 1)).2.2.1 (labE V f (labE V f (i + 1)).1).2.2.1) (labE V f (labE V f (i + 1)).1).2.1 else jn R n (labE V f (i + 1)).2.2.1 (labE V f (labE V f (i + 1)).1).2.2.1),
        ((labE V f (i + 1)).2.2.2 || (labE V f (labE V f (i + 1)).1).2.2.2) || (c i == 47))
    else if isDB (c i) 10 = true then (i + 1, bot R n, bot R n, false)
    else (i + 1, V (c i - 97).toNat, bot R n, false)
/-- An expression in a context: where it ends, the context with its label, D. -/
def condW (V : Nat → Nat) (f i p : Nat) : Nat × Nat × Nat :=
  ((labE c R n V f i).1, jn R n p (labE c R n V f i).2.1, if (labE c R n V f i).2.2.2 = true then jn R n p (labE c R n V f i).2.2.1 else bot R n)
def demW (mute : Bool) (st : WS) (a b i : Nat) : WS := if mute = false ∧ R a b = false ∧ (st.bad < 0 ∨ (i : Int) < st.bad) then { st with bad := (i : Int) } else st
def atLW (mute : Bool) (st : WS) (v a i : Nat) : WS :=
  if mute = true then st
  else if low = true ∧ fx v < 0 then (if jn R n (st.V v) a = st.V v then st else { st with V := setF st.V v (jn R n (st.V v) a), ra := true })
  else demW R mute st a (st.V v) i
def callW (mute : Bool) (st : WS) (k p i : Nat) : WS :=
  if low = true ∧ mute = false then (if jn R n (st.X k) p = st.X k then st else { st with X := setF st.X k (jn R n (st.X k) p), ra := true })
  else demW R mute st p (st.X k) i
/-- A statement in the context p: where it ends, its throw, the labelling behind it. -/
def wkS : Nat → Bool → Nat → Nat → WS → Nat × Nat × WS
  | 0, _, i, _, st => (i, bot R n, st)
  | f + 1, mute, i, p, st =>
    if c i = 44 ∨ c i = 116 then
      (let r1 := wkS f mute (i + 1) p st
       let r2 := wkS f mute r1.1 (jn R n p r1.2.1) r1.2.2
       (r2.1, (if c i = 44 then jn R n r1.2.1 r2.2.1 else r2.2.1), r2.2.2))
    else if c i = 61 then
      (let e := condW c R n st.V f (i + 2) p
       (e.1, e.2.2, atLW R n fx low mute st (c (i + 1) - 97).toNat e.2.1 i))
    else if c i = 105 then
      (let e := condW c R n st.V f (i + 1) p
       let r1 := wkS f mute e.1 e.2.1 st
       let r2 := wkS f mute r1.1 e.2.1 r1.2.2
       (r2.1, jn R n e.2.2 (jn R n r1.2.1 r2.2.1), r2.2.2))
    else if c i = 119 then
      (let e := condW c R n st.V f (i + 1) p
       let r := jn R n e.2.1 e.2.2
       let r1 := wkS f true e.1 r st
       (r1.1, jn R n e.2.2 r1.2.1, if mute = true then r1.2.2 else (wkS f false e.1 (jn R n r r1.2.1) r1.2.2).2.2))
    else if c i = 114 then
      (let d := (c (i + 1) - 48).toNat
       let q := jn R n p d
       (i + 3, q, atLW R n fx low mute (demW R mute st p d i) (c (i + 2) - 97).toNat q i))
    else if c i = 111 then
      (let d := (c (i + 1) - 48).toNat
       let e := condW c R n st.V f (i + 2) p
       (e.1, e.2.2, demW R mute st e.2.1 d i))
    else if c i = 120 then (i + 1, p, st)
    else if c i = 99 then (i + 2, jn R n p (st.T (c (i + 1) - 48).toNat), callW R n low mute st (c (i + 1) - 48).toNat p i)
    else (i + 1, bot R n, st)
end

/-- A statement that is whole: its calls' procedures are there. -/
def wfS (c : Nat → Int) (nv N np : Nat) : Nat → Nat → Nat × Bool
  | 0, i => (i, true)
  | f + 1, i =>
    if c i = 46 ∨ c i = 120 then (i + 1, false)
    else if c i = 44 ∨ c i = 116 then (if (wfS c nv N np f (i + 1)).2 = true then (i, true) else wfS c nv N np f (wfS c nv N np f (i + 1)).1)
    else if c i = 61 then (if isVar nv (c (i + 1)) = true then scE c nv f (i + 2) else (i, true))
    else if c i = 105 then (if (scE c nv f (i + 1)).2 = true then (i, true) else if (wfS c nv N np f (scE c nv f (i + 1)).1).2 = true then (i, true) else wfS c nv N np f (wfS c nv N np f (scE c nv f (i + 1)).1).1)
    else if c i = 119 then (if (scE c nv f (i + 1)).2 = true then (i, true) else wfS c nv N np f (scE c nv f (i + 1)).1)
    else if c i = 114 then (if isDB (c (i + 1)) N = true ∧ isVar nv (c (i + 2)) = true then (i + 3, false) else (i, true))
    else if c i = 111 then (if isDB (c (i + 1)) N = true then scE c nv f (i + 2) else (i, true))
    else if c i = 99 then (if isDB (c (i + 1)) np = true then (i + 2, false) else (i, true))
    else (i, true)

/-- The labels are levels. -/
structure InR (n nv np : Nat) (st : WS) : Prop where
  V : ∀ k, k < nv → st.V k < n
  X : ∀ k, k < np → st.X k < n
  T : ∀ k, k < np → st.T k < n

end Go.Proofs.Ytegnagenjoelkaa

namespace Go.Proofs.Ytegnagenjoelkaa
open Go.RowKit

theorem PI_init {w W2 w1 : World} {o : Value} {s : ByteArray} {I N nv : Nat} {bad : Bool} {l : Value} (hW : W2.heap.size = w.heap.size + 2) (hWb : Below w.heap.size w W2)
    (hsc : Scn w1 w.heap.size s I bad N 0 (.slice none 0 0)) (hpr : w1.heap[w.heap.size + 1]? = some (.cells (pgC o s 0 (.slice none 0 0) (.slice none 0 0)) 58 (0, 0)))
    (hown : w1.ownsRow (w.heap.size + 2) 3 1 l nv (fixL (bt s) N nv)) (hkp : Kp w.heap.size none W2 w1) :
    PI w (((w1.setCell ⟨w.heap.size + 1, 4, none⟩ l).setCell ⟨w.heap.size, 4, none⟩ (.int .i64 (nv : Int))).setCell ⟨w.heap.size + 1, 2, none⟩ (.int .i64 (I : Int))) w.heap.size (w.heap.size + 1)
      o s I bad N nv [] (.slice none 0 0) I [] (.slice none 0 0) l := by
  have h0 := hkp.size
  have a1 : w1.setCell ⟨w.heap.size + 1, 4, none⟩ l = w1.setRow (w.heap.size + 1) (pgC o s 0 (.slice none 0 0) l) := by rw [setCell_eq_setRow w1 _ _ _ _ _ _ hpr]; rfl
  have h1 : (w1.setRow (w.heap.size + 1) (pgC o s 0 (.slice none 0 0) l)).heap[w.heap.size]? = some (.cells (scC s I bad N 0 (.slice none 0 0)) 101 (0, 0)) := (setRow_other w1 _ _ _ (by omega)).trans hsc
  have h2 := setRow_heap w1 (w.heap.size + 1) _ (pgC o s 0 (.slice none 0 0) l) _ _ hpr
  rw [a1, setCell_eq_setRow _ w.heap.size 4 _ _ _ _ h1]
  have h3 : ((w1.setRow (w.heap.size + 1) (pgC o s 0 (.slice none 0 0) l)).setRow w.heap.size ((scC s I bad N 0 (.slice none 0 0)).setIfInBounds 4 (.int .i64 (nv : Int)))).heap[w.heap.size + 1]? = some (.cells (pgC o s 0 (.slice none 0 0) l) 58 (0, 0)) :=
    (setRow_other _ _ _ _ (by omega)).trans h2
  have h4 := setRow_heap (w1.setRow (w.heap.size + 1) (pgC o s 0 (.slice none 0 0) l)) w.heap.size _ ((scC s I bad N 0 (.slice none 0 0)).setIfInBounds 4 (.int .i64 (nv : Int))) _ _ h1
  rw [setCell_eq_setRow _ (w.heap.size + 1) 2 _ _ _ _ h3]
  have hoth : ∀ k, k ≠ w.heap.size → k ≠ w.heap.size + 1 → (((w1.setRow (w.heap.size + 1) (pgC o s 0 (.slice none 0 0) l)).setRow w.heap.size ((scC s I bad N 0 (.slice none 0 0)).setIfInBounds 4 (.int .i64 (nv : Int)))).setRow (w.heap.size + 1) ((pgC o s 0 (.slice none 0 0) l).setIfInBounds 2 (.int .i64 (I : Int)))).heap[k]? = w1.heap[k]? := fun k hk1 hk2 =>
    (setRow_other _ _ _ _ hk2).trans ((setRow_other _ _ _ _ hk1).trans (setRow_other _ _ _ _ hk2))
  refine ⟨⟨?_, World.ownsRow_nil _ _ _ _⟩, ?_, World.ownsRow_nil _ _ _ _, ?_, Or.inl rfl, Or.inl rfl, Or.inl rfl, ?_, rfl, rfl⟩
  · exact (setRow_other _ _ _ _ (by omega)).trans h4
  · exact setRow_heap _ (w.heap.size + 1) _ _ _ _ h3
  · exact ownsRow_keep hown (fun g hg => hoth g (by have := (hown.lt g hg).1; omega) (by have := (hown.lt g hg).1; omega))
  · refine hWb.trans ⟨hkp.os, hkp.tape, hkp.output, by simp; exact hkp.size, fun k hk => (hoth k (by omega) (by omega)).trans (hkp.block k (by omega) (by omega) (by simp))⟩

section
variable {w0 w : World} {cb pb : Nat} {o : Value} {s : ByteArray} {i : Nat} {bad : Bool} {N nv : Nat} {C : List Nat} {v : Value} {main : Nat} {P : List Nat} {pv fl : Value}
theorem PI.setBad (h : PI w0 w cb pb o s i bad N nv C v main P pv fl) (x : Bool) : PI w0 (w.setCell ⟨cb, 2, none⟩ (.bool x)) cb pb o s i x N nv C v main P pv fl := by
  rw [h.sc.sc.set2]
  exact h.scan (r := (i, x)) (w' := w.setRow cb (scC s i x N nv v)) ⟨0, rfl⟩
theorem PI.setI (h : PI w0 w cb pb o s i bad N nv C v main P pv fl) (x : Int) (j : Nat) (hx : x = (j : Int)) : PI w0 (w.setCell ⟨cb, 1, none⟩ (.int .i64 x)) cb pb o s j bad N nv C v main P pv fl := by
  rw [h.sc.sc.set1 x j hx]
  exact h.scan (r := (j, bad)) (w' := w.setRow cb (scC s j bad N nv v)) ⟨0, rfl⟩
end

/-- What the document's Parse answers, and what it leaves. -/
def ParseAns (w0 : World) (o : Value) (s : ByteArray) (N : Nat) (e : Ending) (w' : World) : Prop :=
  (prE s N ≠ 0 ∧ e = .returned (.tuple #[.pointer none, .int .i64 (prE s N), .int .i64 (prP s N)])) ∨
  (prE s N = 0 ∧ s.size ≤ 300 ∧ e = .returned (.tuple #[.pointer (some ⟨w0.heap.size + 1, 0, none⟩), .int .i64 0, .int .i64 0]) ∧
    ∃ v pv fl, PI w0 w' w0.heap.size (w0.heap.size + 1) o s (prA s N).1 false N (prNv s N) (prA s N).2.2.1 v (prNv s N + 1) (prPs s N) pv fl)

theorem scPr_end {c : Nat → Int} {nv N sz f g i : Nat} {C P : List Nat} (h : ¬ i < sz) : scPr c nv N sz f (g + 1) i C P = (i, false, C, P) := by
  simp only [scPr]; rw [if_neg h]
theorem scPr_bad {c : Nat → Int} {nv N sz f g i : Nat} {C P : List Nat} (h : i < sz) (h2 : ¬ (c i = 59 ∧ P.length < 4)) : scPr c nv N sz f (g + 1) i C P = (i, true, C, P) := by
  simp only [scPr]; rw [if_pos h, if_neg h2]
theorem scPr_go {c : Nat → Int} {nv N sz f g i : Nat} {C P : List Nat} (h : i < sz) (h2 : c i = 59 ∧ P.length < 4) (h3 : (scS c nv N f (i + 1) C).2.1 = false) :
    scPr c nv N sz f (g + 1) i C P = scPr c nv N sz f g (scS c nv N f (i + 1) C).1 (scS c nv N f (i + 1) C).2.2 (P ++ [i + 1]) := by
  simp only [scPr]; rw [if_pos h, if_pos h2, h3]; simp
theorem scPr_stuck {c : Nat → Int} {nv N sz f g i : Nat} {C P : List Nat} (h : i < sz) (h2 : c i = 59 ∧ P.length < 4) (h3 : (scS c nv N f (i + 1) C).2.1 = true) :
    scPr c nv N sz f (g + 1) i C P = ((scS c nv N f (i + 1) C).1, true, (scS c nv N f (i + 1) C).2.2, P ++ [i + 1]) := by
  simp only [scPr]; rw [if_pos h, if_pos h2, h3]; simp

/-- The state ahead of a round: what is still to be read comes to the whole. -/
structure LoopI (w0 wr : World) (o : Value) (s : ByteArray) (N nv g i : Nat) (bad : Bool) (C : List Nat) (main : Nat) (P : List Nat) (A : Nat × Bool × List Nat × List Nat) : Prop where
  pi : ∃ v pv fl, PI w0 wr w0.heap.size (w0.heap.size + 1) o s i bad N nv C v main P pv fl
  all : if bad = true then A = (i, true, C, P) else (∃ g', g = g' + 1 ∧ A = scPr (bt s) nv N s.size (s.size + 1) g' i C P ∧ P.length + g' = 5 ∧ P.length ≤ 4)
  le : i ≤ s.size
  cl : C.length ≤ i
  inT : bad = false → ∀ k, k ∈ C → k < s.size

/-- The calls' places lie in the text, where the reader is not stuck. -/
def InT (s : ByteArray) (r : Nat × Bool × List Nat) : Prop := r.2.1 = false → ∀ k, k ∈ r.2.2 → k < s.size
theorem thenS_in {s : ByteArray} {r : Nat × Bool × List Nat} {g : Nat → List Nat → Nat × Bool × List Nat} (h : InT s r) (k : (∀ x, x ∈ r.2.2 → x < s.size) → InT s (g r.1 r.2.2)) : InT s (thenS r g) := by
  unfold thenS
  cases e : r.2.1 with
  | true => rw [if_pos rfl]; exact h
  | false => rw [if_neg (by simp)]; exact k (h e)
theorem thenE_in {s : ByteArray} {e : Nat × Bool} {C : List Nat} {g : Nat → Nat × Bool × List Nat} (k : InT s (g e.1)) : InT s (thenE e C g) := by
  unfold thenE
  cases h : e.2 with
  | true => rw [if_pos rfl]; intro h2; simp at h2
  | false => rw [if_neg (by simp)]; exact k
theorem thenX_in {s : ByteArray} {r : Nat × Bool} {C : List Nat} {g : Nat → Nat × Bool} (hC : ∀ k, k ∈ C → k < s.size) : InT s (thenX r C g) := by
  unfold thenX
  split
  · intro h; simp at h
  · intro _; exact hC
theorem scS_in (s : ByteArray) (nv N f : Nat) : ∀ (i : Nat) (C : List Nat), (∀ k, k ∈ C → k < s.size) → InT s (scS (bt s) nv N f i C) := by
  induction f with
  | zero => intro i C hC h; simp [scS] at h
  | succ f ih =>
    intro i C hC
    by_cases c1 : bt s i = 46 ∨ bt s i = 120
    · rw [scS_plain c1]; intro _; exact hC
    by_cases c2 : bt s i = 44 ∨ bt s i = 116
    · rw [scS_seq c2]; exact thenS_in (ih _ _ hC) (fun h => ih _ _ h)
    by_cases c3 : bt s i = 61
    · rw [scS_eq c3]; exact thenX_in hC
    by_cases c4 : bt s i = 105
    · rw [scS_i c4]; exact thenE_in (thenS_in (ih _ _ hC) (fun h => ih _ _ h))
    by_cases c5 : bt s i = 119
    · rw [scS_w c5]; exact thenE_in (ih _ _ hC)
    by_cases c6 : bt s i = 114
    · rw [scS_r c6]; exact thenX_in hC
    by_cases c7 : bt s i = 111
    · rw [scS_o c7]; exact thenX_in hC
    by_cases c8 : bt s i = 99
    · rw [scS_c c8]
      intro h k hk
      unfold dgS at h
      cases e : isDB (bt s (i + 1)) 4 with
      | false => rw [e] at h; simp at h
      | true =>
        rcases List.mem_append.1 hk with h1 | h1
        · exact hC k h1
        · simp at h1; subst h1; exact isDB_lt e
    rw [scS_no (by omega) (by omega) (by omega) (by omega) c3 c4 c5 c6 c7 c8]
    intro h; simp at h
theorem badCall_drop (c : Nat → Int) (n : Nat) (C : List Nat) (j : Nat) (hj : j < C.length) : badCall c n (C.drop j) = if (n : Int) ≤ dgt (c (C.getD j 0)) 4 then some (C.getD j 0) else badCall c n (C.drop (j + 1)) := by
  rw [List.drop_eq_getElem_cons hj]
  have e : C[j] = C.getD j 0 := by simp [hj]
  simp only [badCall, e]

end Go.Proofs.Ytegnagenjoelkaa

namespace Go.Proofs.Ytegnagenjoelkaa
open Go.RowKit

theorem LoopI_start {w0 wr : World} {o : Value} {s : ByteArray} {N nv i : Nat} {bad : Bool} {C : List Nat} {v : Value} {main : Nat} {pv fl : Value} {A : Nat × Bool × List Nat × List Nat}
    (h : PI w0 wr w0.heap.size (w0.heap.size + 1) o s i bad N nv C v main [] pv fl) (hA : A = if bad = true then (i, true, C, []) else scPr (bt s) nv N s.size (s.size + 1) 5 i C []) (hi : i ≤ s.size) (hC : C.length ≤ i)
    (hin : bad = false → ∀ k, k ∈ C → k < s.size) : LoopI w0 wr o s N nv 6 i bad C main [] A := by
  refine ⟨⟨v, pv, fl, h⟩, ?_, hi, hC, hin⟩
  cases bad
  · rw [if_neg (by simp)]; exact ⟨5, rfl, by simpa using hA, rfl, by simp⟩
  · rw [if_pos rfl]; simpa using hA

theorem own_cells {w : World} {B : Nat} {C : List Nat} {v : Value} (h : w.ownsRow B 3 1 v C.length (cells C)) : ∃ a cap, v = .slice a C.length cap ∧ ∀ j, j < C.length → ∃ g, a = some ⟨g, 0, none⟩ ∧ w.cell? ⟨g, j, none⟩ = some (.int .i64 ((C.getD j 0 : Nat) : Int)) := by
  obtain ⟨a, cap, rfl⟩ := ownsRow_slice h
  refine ⟨a, cap, rfl, fun j hj => ?_⟩
  rcases h.2 with ⟨e1, e2⟩ | ⟨g, cap', cur, e1, _, hg, _, _, _, ht⟩
  · omega
  · simp at e1
    refine ⟨g, e1.1, ?_⟩
    rw [cell_of_row w g j cur _ _ hg]
    have h2 : (cells C)[j]? = some (.int .i64 ((C.getD j 0 : Nat) : Int)) := by simp [cells, hj]
    rw [← ht, List.getElem?_take, if_pos (by omega)] at h2
    simpa using h2
theorem loop_next {c : Nat → Int} {nv N sz f g i : Nat} {C P : List Nat} {A : Nat × Bool × List Nat × List Nat} (hA : A = scPr c nv N sz f (g + 1) i C P) (h1 : i < sz) (h2 : c i = 59) (h3 : P.length < 4) (h4 : P.length + (g + 1) = 5) :
    if (scS c nv N f (i + 1) C).2.1 = true then A = ((scS c nv N f (i + 1) C).1, true, (scS c nv N f (i + 1) C).2.2, P ++ [i + 1])
    else (∃ g', g + 1 = g' + 1 ∧ A = scPr c nv N sz f g' (scS c nv N f (i + 1) C).1 (scS c nv N f (i + 1) C).2.2 (P ++ [i + 1]) ∧ (P ++ [i + 1]).length + g' = 5 ∧ (P ++ [i + 1]).length ≤ 4) := by
  cases e : (scS c nv N f (i + 1) C).2.1
  · rw [if_neg (by simp)]
    exact ⟨g, rfl, by rw [hA]; exact scPr_go h1 ⟨h2, h3⟩ e, by simp; omega, by simp; omega⟩
  · rw [if_pos rfl, hA]
    exact scPr_stuck h1 ⟨h2, h3⟩ e

set_option maxHeartbeats 4000000 in
set_option maxRecDepth 100000 in
theorem Parse_in (w : World) (ob : Nat) (s : ByteArray) (N : Nat) (hs : s.size ≤ 300) (hc : w.cell? ⟨ob, 0, none⟩ = some (.int .i64 (N : Int))) :
    Calls Try.prog 22 #[.pointer (some ⟨ob, 0, none⟩), .string s] w fun e w' => ParseAns w (.pointer (some ⟨ob, 0, none⟩)) s N e w' ∧ Below w.heap.size w w' := by
  have hgt : decide ((300 : Int) < (s.size : Int)) = false := by simp; omega
  go_enter Try.func22, Try.ntmps22
  go_wp2_with fail
  clear hc
  refine (vars_any (v := .slice none 0 0) (s := s) (N := N) (nv := 0) ?_).mono ?_
  · exact (Below.heap_alloc _ _ _ (by simp)).trans (heap_alloc_last w _)
  rintro e w1 ⟨l, rfl, hsc, hown, hkp⟩
  have hpr : w1.heap[w.heap.size + 1]? = some (.cells (pgC (.pointer (some ⟨ob, 0, none⟩)) s 0 (.slice none 0 0) (.slice none 0 0)) 58 (0, 0)) := by
    refine (hkp.block (w.heap.size + 1) (by simp) (by omega) (by simp)).trans ?_
    have := heap_alloc_last (w.alloc (.cells (scC s 0 false N 0 (.slice none 0 0)) 101)) (.cells (pgC (.pointer (some ⟨ob, 0, none⟩)) s 0 (.slice none 0 0) (.slice none 0 0)) 58)
    rw [show (w.alloc (.cells (scC s 0 false N 0 (.slice none 0 0)) 101)).heap.size = w.heap.size + 1 by simp] at this
    exact this
  have p4 : w1.cell? ⟨w.heap.size + 1, 4, none⟩ = some (.slice none 0 0) := by rw [cell_of_row w1 _ 4 _ _ _ hpr]; rfl
  have p2 : w1.cell? ⟨w.heap.size + 1, 2, none⟩ = some (.int .i64 0) := by rw [cell_of_row w1 _ 2 _ _ _ hpr]; rfl
  have z4 := frozen_of_row w1 _ 4 _ _ hpr
  have z2 := frozen_of_row w1 _ 2 _ _ hpr
  have c4 := hsc.c4
  have c1 := hsc.c1
  have c2 := hsc.c2
  have y4 := hsc.fz 4
  obtain ⟨la, lc, rfl⟩ := ownsRow_slice hown
  have HPI := hide (PI_init (w := w) (by simp) (((Below.refl _ _).alloc (Nat.le_refl _) _).alloc (by simp) _) hsc hpr (by have h := hown; simp at h; exact h) hkp)
  have HSZ := hide hkp.size
  clear hsc hown hkp hpr
  have HNV := hide (show nvOf (bt s) N = prNv s N from rfl)
  cases hr : (vrEnd (bt s) N).2
  · rw [hr] at c2 HPI
    have HV := hide (show bt s (nvOf (bt s) N) = 58 ∧ (vrEnd (bt s) N).1 = nvOf (bt s) N + 1 by
      unfold vrEnd at hr ⊢
      by_cases e : bt s (nvOf (bt s) N) = 58
      · rw [if_pos e]; exact ⟨e, rfl⟩
      · rw [if_neg e] at hr; simp at hr)
    rw [(unhide HV).2] at HPI c1
    have HLT := hide (show nvOf (bt s) N + 1 ≤ s.size from bt_lt (by rw [(unhide HV).1]; omega))
    go_wp2_with fail
    refine (stmt_ok _ _ s N (nvOf (bt s) N) hs (s.size + 1) _ _ [] _ (unhide HPI).sc (by omega) (unhide HLT) (by have := (unhide HPI).bel.size; have := unhide HSZ; simp at *; omega) (by simp)).mono ?_
    rintro e w2 ⟨rfl, hs2⟩
    obtain ⟨v2, hpi2⟩ := (unhide HPI).stmt hs2
    have HLI := hide (LoopI_start (A := prA s N) hpi2 (by
        unfold prA parseAll
        rw [if_pos (unhide HV).1]) (scS_good s _ N (s.size + 1) _ [] (unhide HLT) (by simp)).2.1 (scS_good s _ N (s.size + 1) _ [] (unhide HLT) (by simp)).2.2 (scS_in s _ N (s.size + 1) _ [] (by simp)))
    have HMA := hide (show (scS (bt s) (nvOf (bt s) N) N (s.size + 1) (nvOf (bt s) N + 1) []).2.1 = false → nvOf (bt s) N + 1 = prNv s N + 1 from fun _ => rfl)
    clear hpi2 hs2 p4 p2 z4 z2 c4 c1 c2 y4 HPI HV HLT hr
    generalize scS (bt s) (nvOf (bt s) N) N (s.size + 1) (nvOf (bt s) N + 1) [] = R at *
    obtain ⟨i0, bad0, C0⟩ := R
    generalize nvOf (bt s) N + 1 = mn at *
    go_wp2_with fail
    go_loopg [] 6 (fun g wr => ∃ (i : Nat) (bad : Bool) (C P : List Nat) (m : Nat), (bad = false → m = prNv s N + 1) ∧ LoopI w wr (.pointer (some ⟨ob, 0, none⟩)) s N (nvOf (bt s) N) g i bad C m P (prA s N))
    case atStart => exact ⟨i0, bad0, C0, [], mn, unhide HMA, unhide HLI⟩
    case round =>
      obtain ⟨i, bad, C, P, m, hm, hli⟩ := hrel
      obtain ⟨v, pv, fl, hpi⟩ := hli.pi
      have HM := hide hm
      have HLI1 := hide hli
      have HP := hide hpi
      have k1 := hpi.sc.sc.c1
      have k2 := hpi.sc.sc.c2
      have k3 := hpi.c3
      have HLE := hide hli.le
      clear hm hli hpi
      cases bad
      · obtain ⟨g', hg', hA, hPg, hP4⟩ := (unhide HLI1).all
        obtain ⟨g2, rfl⟩ : ∃ g2, g' = g2 + 1 := ⟨g' - 1, by omega⟩
        have HA := hide hA
        clear hA
        have y2 := (unhide HP).sc.sc.fz 2
        have y1 := (unhide HP).sc.sc.fz 1
        obtain ⟨pa, pc, rfl⟩ := ownsRow_slice (unhide HP).pown
        by_cases hlt : i < s.size
        · have hlt' : (i : Int) < (s.size : Int) := by omega
          have hbq := bt_eq s i hlt
          by_cases h59 : bt s i = 59
          · have h59' : (bt s i != 59) = false := by simp [h59]
            by_cases h4 : P.length < 4
            · have h4' : decide ((4 : Int) ≤ (P.length : Int)) = false := by simp; omega
              go_wp2_with fail
              have HP1 := hide ((unhide HP).setI ((i : Int) + 1) (i + 1) (by omega))
              generalize wr.setCell ⟨w.heap.size, 1, none⟩ (.int .i64 ((i : Int) + 1)) = wI at *
              have q1 := (unhide HP1).sc.sc.c1
              have q3 := (unhide HP1).c3
              have qz := (unhide HP1).fz 3
              have hpbl : w.heap.size + 1 < wI.heap.size := World.block_lt_of_cell? wI _ q3
              have hne : some (w.heap.size + 1) ≠ (Value.slice pa P.length pc).ownBlock := fun e => by have := ((unhide HP1).pown.lt _ e.symm).1; omega
              have hca := fun o => (World.cell?_of_block (w := wI) (a := ⟨w.heap.size + 1, 3, none⟩) (Below.heap_alloc wI o _ hpbl)).trans q3
              have hca1 := fun o => (World.cell?_of_block (w := wI) (a := ⟨w.heap.size, 1, none⟩) (Below.heap_alloc wI o _ (show w.heap.size < wI.heap.size by omega))).trans q1
              have hfa := fun o => (World.frozen?_of_block (w := wI) (a := ⟨w.heap.size + 1, 3, none⟩) (Below.heap_alloc wI o _ hpbl)).trans qz
              obtain ⟨i9, hi9, hz0, hz1, hz2⟩ := info_parts info_int
              have HI := hide (And.intro hi9 (And.intro hz0 (And.intro hz1 hz2)))
              clear hi9 hz0 hz1 hz2 k1 k2 k3 y1 y2
              go_region_law ((refine step_append_lies _ (by rfl) _ _ _ (by rfl) (w.heap.size + 2) 3 i9 _ 1 8 Try.underlying46 (unhide HI).1 (unhide HI).2.1 (unhide HI).2.2.1 (unhide HI).2.2.2 rfl (by omega) (.slice pa P.length pc) P.length (cells P) (by rfl) (((unhide HP1).pown.alloc _).drew) ⟨wI.heap.size, 0, none⟩ 1 1 [.int .i64 ((i + 1 : Nat) : Int)] (by rfl) (by rfl) (World.news_of_block (cs := #[.int .i64 ((i + 1 : Nat) : Int)]) (t := 3) (fr := (0, 0)) (heap_alloc_new wI _)) (by simp [Value.oneCell']) (by omega) (by unfold maxLen; omega) (by omega) (by simp; omega) (wI.heap.size + 1) (by simp) ?_; intro gg cap w3 hown1 hgrow hat hlt9; have hc5 := (hgrow.cell_far ⟨w.heap.size + 1, 3, none⟩ (by simp; omega) hne).trans (hca _); have hf5 := (hgrow.frozen_far ⟨w.heap.size + 1, 3, none⟩ (by simp; omega) hne).trans (hfa _)))
              all_goals
                have HP2 := hide ((unhide HP1).push hown1 hgrow hat)
                generalize w3.setCell ⟨w.heap.size + 1, 3, none⟩ (.slice (some ⟨gg, 0, none⟩) (P.length + 1) cap) = w4 at *
                clear hown1 hgrow hat hlt9 hc5 hf5 hca hca1 hfa q1 q3 qz hne hpbl
                have hw4 := (unhide HP2).bel.size
                have hw5 : w.heap.size + 1 < w4.heap.size := World.block_lt_of_cell? w4 _ (unhide HP2).c0
                go_wp2_with fail
                refine (stmt_ok _ _ s N (nvOf (bt s) N) hs (s.size + 1) _ (i + 1) C _ (unhide HP2).sc (by omega) hlt (by omega) (by have := (unhide HLI1).cl; omega)).mono ?_
                rintro e w5 ⟨rfl, hs5⟩
                have HGD := hide (scS_good s (nvOf (bt s) N) N (s.size + 1) (i + 1) C hlt (by have := (unhide HLI1).cl; omega))
                have HIN := hide (scS_in s (nvOf (bt s) N) N (s.size + 1) (i + 1) C ((unhide HLI1).inT rfl))
                have HP5 := hide ((unhide HP2).stmt hs5)
                clear hs5
                have HR := hide (loop_next (unhide HA) hlt h59 h4 hPg)
                go_wp2_with fail
                go_roundg (g2 + 1)
                case measure => omega
                case rel => exact ⟨_, _, _, P ++ [i + 1], m, (fun _ => unhide HM trivial), ⟨by obtain ⟨v5, h5⟩ := unhide HP5; exact ⟨v5, _, fl, h5⟩, unhide HR, (unhide HGD).2.1, (unhide HGD).2.2, unhide HIN⟩⟩
            · have h4' : decide ((4 : Int) ≤ (P.length : Int)) = true := by simp; omega
              have HR := hide (show prA s N = (i, true, C, P) by rw [unhide HA]; exact scPr_bad hlt (fun h => h4 h.2))
              go_wp2_with fail
              go_roundg 0
              case measure => omega
              case rel => exact ⟨i, true, C, P, m, (fun h => by cases h), ⟨⟨v, _, fl, (unhide HP).setBad true⟩, unhide HR, unhide HLE, (unhide HLI1).cl, (fun h => by cases h)⟩⟩
          · have h59' : (bt s i != 59) = true := by simp [h59]
            have HR := hide (show prA s N = (i, true, C, P) by rw [unhide HA]; exact scPr_bad hlt (fun h => h59 h.1))
            go_wp2_with fail
            go_roundg 0
            case measure => omega
            case rel => exact ⟨i, true, C, P, m, (fun h => by cases h), ⟨⟨v, _, fl, (unhide HP).setBad true⟩, unhide HR, unhide HLE, (unhide HLI1).cl, (fun h => by cases h)⟩⟩
        · have HR := hide (show prA s N = (i, false, C, P) by rw [unhide HA]; exact scPr_end hlt)
          have hlt' : decide ((i : Int) < (s.size : Int)) = false := by simp; omega
          have HC := hide (show prC s N = badCall (bt s) P.length C by unfold prC; rw [unhide HR])
          have k5 := (unhide HP).sc.sc.c5
          obtain ⟨va, vc, rfl, hcl⟩ := own_cells (unhide HP).sc.own
          have HCL := hide hcl
          have HIN := hide ((unhide HLI1).inT rfl)
          have hC4 : C.length ≤ 300 := by have := (unhide HLI1).cl; have := unhide HLE; omega
          clear hcl
          go_wp2_with fail
          go_loop [9] (fun d => ∃ j : Nat, j ≤ C.length ∧ d = .int .i64 (j : Int) ∧ badCall (bt s) P.length C = badCall (bt s) P.length (C.drop j)) (fun d => C.length - (intOf d).toNat)
          case atStart => exact ⟨0, Nat.zero_le _, rfl, rfl⟩
          case round =>
            obtain ⟨j, hj, rfl, hq⟩ := hrel
            have HQ := hide hq
            clear hq
            by_cases hjl : j < C.length
            · obtain ⟨g, rfl, hcell⟩ := unhide HCL j hjl
              have hjl' : (j : Int) < (C.length : Int) := by omega
              have HB := hide (badCall_drop (bt s) P.length C j hjl)
              have hk0 : C.getD j 0 < s.size := unhide HIN _ (by simp [hjl])
              generalize C.getD j 0 = k0 at *
              have hk0' : (k0 : Int) < (s.size : Int) := by omega
              have hbk := bt_eq s k0 hk0
              have ⟨hb0, hb1⟩ := bt_bd s k0
              by_cases hge : (P.length : Int) ≤ dgt (bt s k0) 4
              · have hge' : decide ((P.length : Int) ≤ dgt (bt s k0) 4) = true := by simpa using hge
                have HE := hide (show prE s N = 5 ∧ prP s N = (k0 : Int) by
                  have hc : prC s N = some k0 := by rw [unhide HC, unhide HQ, unhide HB, if_pos hge]
                  exact ⟨by unfold prE; rw [if_neg (by omega), unhide HR, hc]; rfl, by unfold prP; rw [if_neg (by omega), unhide HR, hc]; rfl⟩)
                go_wp2_with fail
                refine (digit_any _ _ _ hb0 hb1).mono ?_
                rintro e w' ⟨rfl, rfl⟩
                generalize dgt (bt s k0) 4 = dg at *
                go_wp2_with fail
                go_quiet (fail)
                go_wp2_with fail
                go_ret3
                exact ⟨Or.inl ⟨by rw [(unhide HE).1]; omega, by rw [(unhide HE).1, (unhide HE).2]; rfl⟩, below_drewN2 (unhide HP).bel _⟩
              · have hge' : decide ((P.length : Int) ≤ dgt (bt s k0) 4) = false := by simpa using hge
                have HS := hide (show badCall (bt s) P.length C = badCall (bt s) P.length (C.drop (j + 1)) by rw [unhide HQ, unhide HB, if_neg hge])
                go_wp2_with fail
                refine (digit_any _ _ _ hb0 hb1).mono ?_
                rintro e w' ⟨rfl, rfl⟩
                generalize dgt (bt s k0) 4 = dg at *
                go_wp2_with fail
                go_round
                case rel => exact ⟨j + 1, by omega, by go_num, unhide HS⟩
                case measure => simp [intOf]; omega
            · have HE := hide (show prE s N = 0 by
                have hc : prC s N = none := by rw [unhide HC, unhide HQ, List.drop_of_length_le (by omega)]; rfl
                unfold prE; rw [if_neg (by omega), unhide HR, hc]; rfl)
              have hjl' : decide ((j : Int) < (C.length : Int)) = false := by simp; omega
              go_wp2_with fail
              go_ret3
              exact ⟨Or.inr ⟨unhide HE, hs, rfl, _, _, fl, by
                have h := unhide HP
                rw [unhide HM trivial] at h
                unfold prPs
                rw [unhide HR]
                exact h⟩, (unhide HP).bel⟩
      · have HA := hide (show prA s N = (i, true, C, P) from (unhide HLI1).all)
        have HE := hide (show prE s N = 4 ∧ prP s N = (i : Int) by
          exact ⟨by unfold prE; rw [if_neg (by omega), unhide HA]; rfl, by unfold prP; rw [if_neg (by omega), unhide HA]; rfl⟩)
        go_wp2_with fail
        go_quiet (fail)
        go_wp2_with fail
        go_ret3
        exact ⟨Or.inl ⟨by rw [(unhide HE).1]; omega, by rw [(unhide HE).1, (unhide HE).2]; rfl⟩, below_drewN2 (unhide HP).bel _⟩
  · rw [hr] at c2 HPI
    have HV := hide (show ¬ bt s (nvOf (bt s) N) = 58 ∧ (vrEnd (bt s) N).1 = nvOf (bt s) N by
      unfold vrEnd at hr ⊢
      by_cases e : bt s (nvOf (bt s) N) = 58
      · rw [if_pos e] at hr; simp at hr
      · rw [if_neg e]; exact ⟨e, rfl⟩)
    rw [(unhide HV).2] at HPI c1
    have HE := hide (show prE s N = 4 ∧ prP s N = (nvOf (bt s) N : Int) by
      have ha : prA s N = (nvOf (bt s) N, true, [], []) := by unfold prA parseAll; rw [if_neg (unhide HV).1]
      exact ⟨by unfold prE; rw [if_neg (by omega), ha]; rfl, by unfold prP; rw [if_neg (by omega), ha]; rfl⟩)
    clear hr
    go_wp2_with fail
    generalize ((w1.setCell ⟨w.heap.size + 1, 4, none⟩ (.slice la (nvOf (bt s) N) lc)).setCell ⟨w.heap.size, 4, none⟩ (.int .i64 (nvOf (bt s) N : Int))).setCell ⟨w.heap.size + 1, 2, none⟩ (.int .i64 (nvOf (bt s) N : Int)) = w2 at *
    have k1 := (unhide HPI).sc.sc.c1
    have k2 := (unhide HPI).sc.sc.c2
    clear p4 p2 z4 z2 c4 c1 c2 y4
    go_loopg [] 1 (fun g wr => wr = w2)
    case atStart => rfl
    case round =>
      obtain rfl := hrel
      go_wp2_with fail
      go_quiet (fail)
      go_wp2_with fail
      go_ret3
      exact ⟨Or.inl ⟨by rw [(unhide HE).1]; omega, by rw [(unhide HE).1, (unhide HE).2]; rfl⟩, below_drewN2 (unhide HPI).bel _⟩

set_option maxHeartbeats 1000000 in
set_option maxRecDepth 10000 in
theorem Parse_any (w : World) (ob : Nat) (s : ByteArray) (N : Nat) (hc : w.cell? ⟨ob, 0, none⟩ = some (.int .i64 (N : Int))) :
    Calls Try.prog 22 #[.pointer (some ⟨ob, 0, none⟩), .string s] w fun e w' => ParseAns w (.pointer (some ⟨ob, 0, none⟩)) s N e w' ∧ Below w.heap.size w w' := by
  by_cases h : s.size ≤ 300
  · exact Parse_in w ob s N h hc
  · have hgt : (300 : Int) < (s.size : Int) := by omega
    have HE := hide (show prE s N = 1 ∧ prP s N = 0 from ⟨by unfold prE; rw [if_pos (by omega)], by unfold prP; rw [if_pos (by omega)]⟩)
    clear hc
    go_enter Try.func22, Try.ntmps22
    go_wp2_with fail
    go_ret3
    exact ⟨Or.inl ⟨by rw [(unhide HE).1]; omega, by rw [(unhide HE).1, (unhide HE).2]; rfl⟩, Below.refl _ _⟩

end Go.Proofs.Ytegnagenjoelkaa
