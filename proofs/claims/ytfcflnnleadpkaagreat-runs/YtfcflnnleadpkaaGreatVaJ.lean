import Derived.Test.YtfcflnnleadpkaaGreatYaJ
import Derived.Test.YtfcflnnleadpkaaGreatTnJ
import Derived.Deep.RegionWith
import Derived.DataElems
import Derived.Deep.LoopGhost
import Derived.Deep.QuietTactic
import Derived.BigQuiet
import Derived.Deep.AppendLies
namespace Go.Proofs.YtfcflnnleadpkaaGreat
open Go.RowKit
variable {w w' : World}

/-- A slice of m events, wherever it lies. -/
def SlE (w : World) (v : Value) (m : Nat) (L : Nat → Int × Int) : Prop := ∃ a cap, v = .slice a m cap ∧ (a = none → m = 0 ∧ cap = 0) ∧ ∀ i, i < m → ∃ ad : Addr, a = some ad ∧ w.cell? (ad.add (i * 2)) = some (.int .i64 (L i).1) ∧ w.cell? (ad.add (i * 2 + 1)) = some (.int .i64 (L i).2)
theorem SlE.below {v : Value} {m : Nat} {L : Nat → Int × Int} (h : SlE w v m L) (hb : Below w.heap.size w w') : SlE w' v m L := by
  obtain ⟨a, cap, rfl, h0, h⟩ := h
  refine ⟨a, cap, rfl, h0, fun i hi => ?_⟩
  obtain ⟨ad, e, c1, c2⟩ := h i hi
  exact ⟨ad, e, (World.cell?_of_block (w := w) (hb.block _ (World.block_lt_of_cell? w _ c1))).trans c1, (World.cell?_of_block (w := w) (hb.block _ (World.block_lt_of_cell? w _ c2))).trans c2⟩

set_option maxHeartbeats 400000 in
theorem sameEvent_any (w : World) (a b c d : Int) : Calls Tryz.prog 39 #[.agg #[.int .i64 a, .int .i64 b], .agg #[.int .i64 c, .int .i64 d]] w fun e w' => ∃ x, e = .returned (.bool x) ∧ (x = true ↔ a = c ∧ b = d) ∧ Below w.heap.size w w' := by
  have HB := hide (fun o1 o2 => ((alloc_below w o1).trans ((alloc_below (w.alloc o1) o2).mono (by simp))))
  by_cases h1 : a = c
  · subst h1
    go_enter Tryz.func39, Tryz.ntmps39
    go_wp2_with fail
    go_ret
    exact ⟨b == d, rfl, by simp, unhide HB _ _⟩
  · have h1' : decide (a = c) = false := by simpa using h1
    go_enter Tryz.func39, Tryz.ntmps39
    go_wp2_with fail
    go_ret
    exact ⟨false, rfl, by simp [h1], unhide HB _ _⟩

set_option maxHeartbeats 800000 in
theorem begins_any {a b : Value} {m k : Nat} {L M : Nat → Int × Int} (hm : m ≤ 1000000) (ha : SlE w a m L) (hb : SlE w b k M) :
    Calls Tryz.prog 19 #[a, b] w fun e w' => ∃ x, e = .returned (.bool x) ∧ (x = true ↔ m ≤ k ∧ ∀ i, i < m → L i = M i) ∧ Below w.heap.size w w' := by
  have HA := hide ha
  have HBB := hide hb
  obtain ⟨aa, ac, rfl, _, _⟩ := ha
  obtain ⟨ba, bc, rfl, _, _⟩ := hb
  by_cases hmk : m ≤ k
  · have hmk' : decide ((k : Int) < (m : Int)) = false := by simp; omega
    have hmk2 : decide (k < m) = false := by simp; omega
    go_enter Tryz.func19, Tryz.ntmps19
    go_wp2_with fail
    go_loopg [5] m (fun g d wr => ∃ (j : Nat), j + g = m ∧ d = .int .i64 (j : Int) ∧ Below w.heap.size w wr ∧ ∀ i, i < j → L i = M i)
    case atStart => exact ⟨0, Nat.zero_add _, rfl, Below.refl _ _, fun i hi => by omega⟩
    case round =>
      obtain ⟨j, hjg, rfl, hbr, hall⟩ := hrel
      have HBR := hide hbr
      have HALL := hide hall
      clear hall hbr
      by_cases hlt : j < m
      · have hlt' : (j : Int) < (m : Int) := by omega
        have hlt2 : (j : Int) < (k : Int) := by omega
        obtain ⟨aa', ac', e0, _, hca⟩ := (unhide HA).below (unhide HBR)
        obtain ⟨ad, e1, c1, c2⟩ := hca j hlt
        injection e0 with e00 _ e01
        subst e00 e01 e1
        obtain ⟨ba', bc', f0, _, hcb⟩ := (unhide HBB).below (unhide HBR)
        obtain ⟨bd, f1, c3, c4⟩ := hcb j (by omega)
        injection f0 with f00 _ f01
        subst f00 f01 f1
        clear hca hcb
        have hw1 : Hid (Value.int .i64 ((j : Int) + 1) = Value.int .i64 ((j + 1 : Nat) : Int)) := hide (congrArg (Value.int .i64) (by omega))
        obtain ⟨x1, HX1⟩ : ∃ x, Hid (L j = x) := ⟨_, rfl⟩
        obtain ⟨x2, HX2⟩ : ∃ x, Hid (M j = x) := ⟨_, rfl⟩
        rw [unhide HX1] at c1 c2
        rw [unhide HX2] at c3 c4
        obtain ⟨l1, l2⟩ := x1
        obtain ⟨m1, m2⟩ := x2
        simp only at c1 c2 c3 c4
        have c2' : wr.cell? ⟨(ad.add (j * 2)).block, (ad.add (j * 2)).off + 1, none⟩ = some (.int .i64 l2) := by show wr.cell? ((ad.add (j * 2)).add 1) = _; rw [Addr.add_add]; exact c2
        have c4' : wr.cell? ⟨(bd.add (j * 2)).block, (bd.add (j * 2)).off + 1, none⟩ = some (.int .i64 m2) := by show wr.cell? ((bd.add (j * 2)).add 1) = _; rw [Addr.add_add]; exact c4
        go_wp2_with fail
        go_region_with (go_at_call 39; refine (sameEvent_any _ l1 l2 m1 m2).mono ?_; rintro e w3 ⟨x, rfl, hx, hb3⟩)
        all_goals
          have HX := hide hx
          have HB3 := hide ((unhide HBR).trans ((below_drewN2 (Below.refl _ _) 1).trans (hb3.mono (unhide HBR).size)))
          clear hx hb3
          cases x
          · have HNE := hide (show L j ≠ M j from fun e => by
              rw [unhide HX1, unhide HX2] at e
              injection e with e1 e2
              have := (unhide HX).2 ⟨e1, e2⟩
              cases this)
            go_wp2_with fail
            go_ret
            exact ⟨false, rfl, ⟨(fun h => by cases h), fun h => absurd (h.2 j hlt) (unhide HNE)⟩, unhide HB3⟩
          · have HEQ := hide (show L j = M j by
              rw [unhide HX1, unhide HX2]
              have := (unhide HX).1 rfl
              rw [this.1, this.2])
            go_wp2_with fail
            go_roundg (gk - 1)
            case measure => omega
            case rel => exact ⟨j + 1, by omega, unhide hw1, unhide HB3, fun i hi => by
              by_cases e : i = j
              · rw [e]; exact unhide HEQ
              · exact unhide HALL i (by omega)⟩
      · have hje : j = m := by omega
        subst hje
        have hlt' : decide ((j : Int) < (j : Int)) = false := by simp
        go_wp2_with fail
        go_ret
        exact ⟨true, rfl, ⟨fun _ => ⟨hmk, unhide HALL⟩, fun _ => rfl⟩, unhide HBR⟩
  · have hmk' : decide ((k : Int) < (m : Int)) = true := by simp; omega
    go_enter Tryz.func19, Tryz.ntmps19
    go_wp2_with fail
    go_ret
    exact ⟨false, rfl, ⟨(fun h => by cases h), fun h => absurd h.1 hmk⟩, Below.refl _ _⟩

end Go.Proofs.YtfcflnnleadpkaaGreat

namespace Go.Proofs.YtfcflnnleadpkaaGreat
open Go.RowKit
variable {w w' : World}

set_option maxHeartbeats 400000 in
theorem sameEvents_any {a b : Value} {m k : Nat} {L M : Nat → Int × Int} (hm : m ≤ 1000000) (ha : SlE w a m L) (hb : SlE w b k M) :
    Calls Tryz.prog 10 #[a, b] w fun e w' => ∃ x, e = .returned (.bool x) ∧ (x = true ↔ m = k ∧ ∀ i, i < m → L i = M i) ∧ Below w.heap.size w w' := by
  have HA := hide ha
  have HBB := hide hb
  obtain ⟨aa, ac, rfl, _, _⟩ := ha
  obtain ⟨ba, bc, rfl, _, _⟩ := hb
  go_enter Tryz.func10, Tryz.ntmps10
  go_wp2_with fail
  refine (begins_any hm (unhide HA) (unhide HBB)).mono ?_
  rintro e w1 ⟨x, rfl, hx, hb1⟩
  have HX := hide hx
  have HB1 := hide hb1
  clear hx hb1
  cases x
  · go_wp2_with fail
    go_ret
    exact ⟨false, rfl, ⟨(fun h => by cases h), fun h => (unhide HX).2 ⟨by omega, h.2⟩⟩, unhide HB1⟩
  · by_cases hmk : m = k
    · subst hmk
      go_wp2_with fail
      go_ret
      exact Or.inr ⟨rfl, ((unhide HX).1 (by trivial)).2, unhide HB1⟩
    · have hmk' : decide ((m : Int) = (k : Int)) = false := by simp; omega
      have hmk2 : ((m : Int) == (k : Int)) = false := by simp; omega
      go_wp2_with fail
      go_ret
      exact ⟨false, rfl, ⟨(fun h => by cases h), fun h => absurd h.1 hmk⟩, unhide HB1⟩

end Go.Proofs.YtfcflnnleadpkaaGreat

namespace Go.Proofs.YtfcflnnleadpkaaGreat
open Go.RowKit
variable {w w' : World}

/-- Pairs of numbers, as cells. -/
def twC (L : Nat → Int × Int) (m : Nat) : List Value := (List.range m).flatMap (fun i => [.int .i64 (L i).1, .int .i64 (L i).2])
theorem twC_len (L : Nat → Int × Int) (m : Nat) : (twC L m).length = m * 2 := by
  induction m with
  | zero => rfl
  | succ m ih =>
    have : twC L (m + 1) = twC L m ++ [.int .i64 (L m).1, .int .i64 (L m).2] := by unfold twC; rw [List.range_succ, List.flatMap_append]; rfl
    rw [this, List.length_append, ih]; simp; omega
theorem twC_succ (L : Nat → Int × Int) (m : Nat) : twC L m ++ [.int .i64 (L m).1, .int .i64 (L m).2] = twC L (m + 1) := by unfold twC; rw [List.range_succ, List.flatMap_append]; rfl
theorem twC_get (L : Nat → Int × Int) : ∀ (m i : Nat), i < m → (twC L m)[i * 2]? = some (.int .i64 (L i).1) ∧ (twC L m)[i * 2 + 1]? = some (.int .i64 (L i).2) := by
  intro m
  induction m with
  | zero => intro i hi; omega
  | succ m ih =>
    intro i hi
    rw [← twC_succ]
    have hl := twC_len L m
    by_cases e : i = m
    · subst e
      constructor
      · rw [List.getElem?_append_right (by omega), hl, Nat.sub_self]; rfl
      · rw [List.getElem?_append_right (by omega), hl, show i * 2 + 1 - i * 2 = 1 by omega]; rfl
    · obtain ⟨h1, h2⟩ := ih i (by omega)
      constructor
      · rw [List.getElem?_append_left (by omega)]; exact h1
      · rw [List.getElem?_append_left (by omega)]; exact h2
theorem evC_twC (es : List (Nat × Nat)) : evC es = twC (fun i => (((es.getD i (0, 0)).1 : Int), ((es.getD i (0, 0)).2 : Int))) es.length := by
  have key : ∀ (fs : List (Nat × Nat)) (k : Nat), evC (fs.take k) = twC (fun i => (((fs.getD i (0, 0)).1 : Int), ((fs.getD i (0, 0)).2 : Int))) (min k fs.length) := by
    intro fs k
    induction k with
    | zero => simp [evC, twC]
    | succ k ih =>
      by_cases hk : k < fs.length
      · rw [show min (k + 1) fs.length = min k fs.length + 1 by omega, ← twC_succ, ← ih, show min k fs.length = k by omega, List.take_add_one, evC_app]
        simp [evC, hk]
      · rw [show min (k + 1) fs.length = min k fs.length by omega, ← ih, List.take_of_length_le (by omega), List.take_of_length_le (by omega)]
  have := key es es.length
  simpa using this
/-- A row of events of one's own. -/
theorem SlE.own {B m : Nat} {ty : TypeId} {v : Value} {L : Nat → Int × Int} (h : w.ownsRow B ty 2 v m (twC L m)) : SlE w v m L := by
  rcases h.2 with ⟨rfl, e1⟩ | ⟨g, cap, cur, rfl, hb, hg, _, _, _, ht⟩
  · subst e1
    exact ⟨none, 0, rfl, fun _ => ⟨rfl, rfl⟩, fun i hi => by omega⟩
  · refine ⟨_, _, rfl, (fun h => by cases h), fun k hk => ⟨_, rfl, ?_, ?_⟩⟩
    · have e : (Addr.mk g 0 none).add (k * 2) = ⟨g, k * 2, none⟩ := by simp [Addr.add]; omega
      have h2 : (cur.toList.take (m * 2))[k * 2]? = some (.int .i64 (L k).1) := by rw [ht]; exact (twC_get L m k hk).1
      rw [List.getElem?_take_of_lt (by omega)] at h2
      simp only [Array.getElem?_toList] at h2
      rw [e, cell_of_row w g (k * 2) cur _ _ hg, h2]
    · have e : (Addr.mk g 0 none).add (k * 2 + 1) = ⟨g, k * 2 + 1, none⟩ := by simp [Addr.add]
      have h2 : (cur.toList.take (m * 2))[k * 2 + 1]? = some (.int .i64 (L k).2) := by rw [ht]; exact (twC_get L m k hk).2
      rw [List.getElem?_take_of_lt (by omega)] at h2
      simp only [Array.getElem?_toList] at h2
      rw [e, cell_of_row w g (k * 2 + 1) cur _ _ hg, h2]

theorem info_hevent : (Tryz.prog.info? 85).map (fun i => (i.zero, i.size, i.bytes)) = some (some (.agg #[.int .i64 0, .int .i64 0]), 2, 16) := by kernel_rfl


end Go.Proofs.YtfcflnnleadpkaaGreat

namespace Go.Proofs.YtfcflnnleadpkaaGreat
open Go.RowKit

/-- The inputs of the levels there are. -/
def inpN (n : Nat) (inp : Nat → List Nat) (d : Nat) : List Nat := if d < n then inp d else []
/-- What a run comes to. -/
def rnR (o s : ByteArray) (n : Nat) (inp : Nat → List Nat) (fuel : Nat) : RS × Nat := ecR (pE (cl o n) s n) (inpN n inp) fuel
def evL (es : List (Nat × Nat)) (i : Nat) : Int × Int := (((es.getD i (0, 0)).1 : Int), ((es.getD i (0, 0)).2 : Int))
/-- What the program's own Run must come to. -/
def RunAns (o s : ByteArray) (inp : Nat → List Nat) (fuel : Int) (e : Ending) (w' : World) : Prop :=
  ∃ (a p : Int) (n : Nat), CkPost o s a p n ∧ ((a ≠ 0 ∧ e = .returned (.tuple #[.slice none 0 0, .int .i64 0, .int .i64 a])) ∨
    (a = 0 ∧ p = 0 ∧ ¬ (0 ≤ fuel ∧ fuel ≤ 10000) ∧ e = .returned (.tuple #[.slice none 0 0, .int .i64 0, .int .i64 7])) ∨
    (a = 0 ∧ p = 0 ∧ ∃ (f : Nat) (v : Value), fuel = (f : Int) ∧ f ≤ 10000 ∧ SlE w' v (rnR o s n inp f).1.out.length (evL (rnR o s n inp f).1.out) ∧ e = .returned (.tuple #[v, .int .i64 ((rnR o s n inp f).2 : Int), .int .i64 0])))
def HushRun : Prop := ∀ (w : World) (o s : ByteArray) (iv : Value) (inp : Nat → List Nat) (fuel : Int), (∀ n, n ≤ 8 → InpR w iv n inp) →
  Calls Tryz.prog 4 #[.string o, .string s, iv, .int .i64 fuel] w fun e w' => RunAns o s inp fuel e w' ∧ Below w.heap.size w w'
theorem InpR.congr {w : World} {iv : Value} {n : Nat} {inp inp' : Nat → List Nat} (h : InpR w iv n inp) (e : ∀ d, d < n → inp' d = inp d) : InpR w iv n inp' := by
  obtain ⟨a, len, cap, rfl, h⟩ := h
  exact ⟨a, len, cap, rfl, fun d hd => by rw [e d hd]; exact h d hd⟩
theorem inpN_in {n d : Nat} {inp : Nat → List Nat} (h : d < n) : inpN n inp d = inp d := by unfold inpN; rw [if_pos h]
theorem inpN_out {n d : Nat} {inp : Nat → List Nat} (h : n ≤ d) : inpN n inp d = [] := by unfold inpN; rw [if_neg (by omega)]
theorem ecR_same {E E' : Env} (h : Same E E') (inp : Nat → List Nat) (fuel : Nat) : ecR E inp fuel = ecR E' inp fuel := by
  unfold ecR; rw [h.s, h.P, h.main]

theorem ecR_len (E : Env) (inp : Nat → List Nat) (fuel : Nat) : (ecR E inp fuel).1.out.length ≤ fuel := by
  obtain ⟨l, e, hl⟩ := (exS_grow (c := bt E.s) (inp := inp) (P := fun k => (E.P k).toNat) (F := E.s.size + 1) 10000 E.main 0 ⟨fun _ => 0, fun _ => 0, [], fuel⟩).out
  unfold ecR
  rw [e]
  simp only [List.nil_append]
  have h2 : l.length + (exS (bt E.s) inp (fun k => (E.P k).toNat) (E.s.size + 1) 10000 E.main 0 ⟨fun _ => 0, fun _ => 0, [], fuel⟩).1.fuel ≤ fuel := hl
  omega

set_option maxHeartbeats 400000 in
theorem fuelled_any (w : World) (x : Int) : Calls Tryz.prog 7 #[.int .i64 x] w fun e w' => e = .returned (.bool (decide (0 ≤ x ∧ x ≤ 10000))) ∧ w' = w := by
  by_cases h1 : 0 ≤ x
  · have h1' : decide ((0 : Int) ≤ x) = true := by simpa using h1
    by_cases h2 : x ≤ 10000
    · have HX := hide (show decide (0 ≤ x ∧ x ≤ 10000) = true by simp [h1, h2])
      rw [unhide HX]
      have h2' : decide (x ≤ 10000) = true := by simpa using h2
      go_enter Tryz.func7, Tryz.ntmps7
      go_wp2_with fail
      go_ret
      exact ⟨rfl, rfl⟩
    · have HX := hide (show decide (0 ≤ x ∧ x ≤ 10000) = false by simp [h2])
      rw [unhide HX]
      have h2' : decide (x ≤ 10000) = false := by simpa using h2
      go_enter Tryz.func7, Tryz.ntmps7
      go_wp2_with fail
      go_ret
      exact ⟨rfl, rfl⟩
  · have HX := hide (show decide (0 ≤ x ∧ x ≤ 10000) = false by simp [h1])
    rw [unhide HX]
    have h1' : decide ((0 : Int) ≤ x) = false := by simpa using h1
    go_enter Tryz.func7, Tryz.ntmps7
    go_wp2_with fail
    go_ret
    exact ⟨rfl, rfl⟩


end Go.Proofs.YtfcflnnleadpkaaGreat

namespace Go.Proofs.YtfcflnnleadpkaaGreat
open Go.RowKit
variable {w w' : World}

set_option maxHeartbeats 1600000 in
set_option maxRecDepth 10000 in
theorem events_any {b : Value} {m : Nat} {L : Nat → Int × Int} (hm : m ≤ 1000000) (hb : SlE w b m L) :
    Calls Tryz.prog 9 #[b] w fun e w' => ∃ v, e = .returned v ∧ SlE w' v m L ∧ Below w.heap.size w w' := by
  have HBB := hide hb
  obtain ⟨ba, bc, rfl, _, _⟩ := hb
  obtain ⟨i0, hi0, hz0, hz1, hz2⟩ := info_parts info_hevent
  have HI := hide (And.intro hi0 (And.intro hz0 (And.intro hz1 hz2)))
  clear hi0 hz0 hz1 hz2
  go_enter Tryz.func9, Tryz.ntmps9
  go_wp2_with fail
  go_loopg [3, 4] m (fun g ov d wr => ∃ (j : Nat), j + g = m ∧ d = .int .i64 (j : Int) ∧ Below w.heap.size w wr ∧ wr.ownsRow w.heap.size 85 2 ov j (twC L j))
  case atStart => exact ⟨0, Nat.zero_add _, rfl, Below.refl _ _, World.ownsRow_nil _ _ _ _⟩
  case round =>
    obtain ⟨j, hjg, rfl, hbr, hor⟩ := hrel
    have HBR := hide hbr
    have HOR := hide hor
    have hwl := hbr.size
    clear hbr hor
    by_cases hlt : j < m
    · have hlt' : (j : Int) < (m : Int) := by omega
      obtain ⟨ba', bc', f0, _, hcb⟩ := (unhide HBB).below (unhide HBR)
      obtain ⟨bd, f1, c1, c2⟩ := hcb j hlt
      injection f0 with f00 _ f01
      subst f00 f01 f1
      obtain ⟨x1, HX1⟩ : ∃ x, Hid (L j = x) := ⟨_, rfl⟩
      rw [unhide HX1] at c1 c2
      obtain ⟨l1, l2⟩ := x1
      simp only at c1 c2
      have c2' : wr.cell? ⟨(bd.add (j * 2)).block, (bd.add (j * 2)).off + 1, none⟩ = some (.int .i64 l2) := by show wr.cell? ((bd.add (j * 2)).add 1) = _; rw [Addr.add_add]; exact c2
      have hw1 : Hid (Value.int .i64 ((j : Int) + 1) = Value.int .i64 ((j + 1 : Nat) : Int)) := hide (congrArg (Value.int .i64) (by omega))
      have HOB := hide (show ∀ g, u3.ownBlock = some g → w.heap.size ≤ g ∧ g < wr.heap.size from fun g hg => (unhide HOR).lt g hg)
      clear hcb
      go_wp2_with fail
      go_region_law ((refine step_append_lies _ (by rfl) _ _ _ (by rfl) w.heap.size 85 i0 _ 2 16 Tryz.underlying23 (unhide HI).1 (unhide HI).2.1 (unhide HI).2.2.1 (unhide HI).2.2.2 rfl (by omega) u3 j (twC L j) (by rfl) (((unhide HOR).alloc _).drew) ⟨wr.heap.size, 0, none⟩ 1 1 [.int .i64 l1, .int .i64 l2] (by rfl) (by rfl) (World.news_of_block (cs := #[.int .i64 l1, .int .i64 l2]) (t := 85) (fr := (0, 0)) (heap_alloc_new wr _)) (by simp [Value.oneCell']) (by omega) (by unfold maxLen; omega) (by omega) (by simp; omega) (wr.heap.size + 1) (by simp) ?_; intro gg cap w3 hown1 hgrow hat hlt9))
      all_goals
        have HO2 := hide (show w3.ownsRow w.heap.size 85 2 (.slice (some ⟨gg, 0, none⟩) (j + 1) cap) (j + 1) (twC L (j + 1)) by
          rw [← twC_succ, unhide HX1]
          exact hown1)
        have HB2 := hide (show Below w.heap.size w w3 from (unhide HBR).trans ⟨hgrow.os, hgrow.tape, hgrow.output, by have := hgrow.size; simp at this; omega, fun i hi => by
          have h1 := hgrow.block i (by simp; omega) (fun e => by have := (unhide HOB i e.symm).1; omega)
          exact h1.trans (Below.heap_alloc wr _ i (by omega))⟩)
        clear hown1 hgrow hat hlt9
        go_wp2_with fail
        go_roundg (gk - 1)
        case measure => omega
        case rel => exact ⟨j + 1, by omega, unhide hw1, unhide HB2, unhide HO2⟩
    · have hje : j = m := by omega
      subst hje
      have hlt' : decide ((j : Int) < (j : Int)) = false := by simp
      go_wp2_with fail
      go_ret
      exact ⟨u3, rfl, SlE.own (unhide HOR), unhide HBR⟩

end Go.Proofs.YtfcflnnleadpkaaGreat
