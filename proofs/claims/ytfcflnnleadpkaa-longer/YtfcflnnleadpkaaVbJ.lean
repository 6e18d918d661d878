import Derived.Test.YtfcflnnleadpkaaXaJ
import Derived.Deep.LoopGhost
import Derived.Deep.QuietTactic
import Derived.BigQuiet
import Derived.Deep.AppendLies
import Derived.Test.YtfcflnnleadpkaaZcJ
import Derived.Test.YtfcflnnleadpkaaFqJ
namespace Go.Proofs.Ytfcflnnleadpkaa
open Go.RowKit
variable {w w' : World}

set_option maxHeartbeats 400000 in
theorem sameEvents_any {a b : Value} {m k : Nat} {L M : Nat → Int × Int} (hm : m ≤ 1000000) (ha : SlE w a m L) (hb : SlE w b k M) :
    Calls Try.prog 31 #[a, b] w fun e w' => ∃ x, e = .returned (.bool x) ∧ (x = true ↔ m = k ∧ ∀ i, i < m → L i = M i) ∧ Below w.heap.size w w' := by
  have HA := hide ha
  have HBB := hide hb
  obtain ⟨aa, ac, rfl, _, _⟩ := ha
  obtain ⟨ba, bc, rfl, _, _⟩ := hb
  go_enter Try.func31, Try.ntmps31
  go_wp2_with fail
  refine (begins_any hm (unhide HA) (unhide HBB)).mono ?_
  rintro e w1 ⟨x, rfl, hx, hb1⟩
  have HX := hide hx
  have HB1 := hide hb1
  clear hx hb1
  cases x
  · go_wp2_with fail
    go_ret
    exact ⟨false, rfl, ⟨(fun h => by cases h), fun h => (unhide HX).2 ⟨by omega, h.2⟩⟩, unhide HB1⟩
  · by_cases hmk : m = k
    · subst hmk
      go_wp2_with fail
      go_ret
      exact Or.inr ⟨rfl, ((unhide HX).1 (by trivial)).2, unhide HB1⟩
    · have hmk' : decide ((m : Int) = (k : Int)) = false := by simp; omega
      have hmk2 : ((m : Int) == (k : Int)) = false := by simp; omega
      go_wp2_with fail
      go_ret
      exact ⟨false, rfl, ⟨(fun h => by cases h), fun h => absurd h.1 hmk⟩, unhide HB1⟩

/-- Every event is one of a level, with a number. -/
def evOk (n : Nat) (e : Int × Int) : Prop := 0 ≤ e.1 ∧ e.1 < (n : Int) ∧ 0 ≤ e.2 ∧ e.2 < 65536
set_option maxHeartbeats 800000 in
theorem valid_any {b : Value} {m n ob : Nat} {L : Nat → Int × Int} (hm : m ≤ 1000000) (hn : w.cell? ⟨ob, 0, none⟩ = some (.int .i64 (n : Int))) (hb : SlE w b m L) :
    Calls Try.prog 29 #[.pointer (some ⟨ob, 0, none⟩), b] w fun e w' => ∃ x, e = .returned (.bool x) ∧ (x = true ↔ ∀ i, i < m → evOk n (L i)) ∧ ∃ q, w' = w.drewN q := by
  have HBB := hide hb
  obtain ⟨ba, bc, rfl, _, hcb⟩ := hb
  have HCB := hide hcb
  clear hcb
  go_enter Try.func29, Try.ntmps29
  go_wp2_with fail
  go_loopg [5] m (fun g d wr => ∃ (j q : Nat), j + g = m ∧ d = .int .i64 (j : Int) ∧ wr = w.drewN q ∧ ∀ i, i < j → evOk n (L i))
  case atStart => exact ⟨0, 0, Nat.zero_add _, rfl, rfl, fun i hi => by omega⟩
  case round =>
    obtain ⟨j, q, hjg, rfl, rfl, hall⟩ := hrel
    have HALL := hide hall
    clear hall
    by_cases hlt : j < m
    · have hlt' : (j : Int) < (m : Int) := by omega
      obtain ⟨bd, rfl, c1, c2⟩ := unhide HCB j hlt
      obtain ⟨x1, HX1⟩ : ∃ x, Hid (L j = x) := ⟨_, rfl⟩
      rw [unhide HX1] at c1 c2
      obtain ⟨l1, l2⟩ := x1
      simp only at c1 c2
      have c2' : w.cell? ⟨(bd.add (j * 2)).block, (bd.add (j * 2)).off + 1, none⟩ = some (.int .i64 l2) := by show w.cell? ((bd.add (j * 2)).add 1) = _; rw [Addr.add_add]; exact c2
      have hw1 : Hid (Value.int .i64 ((j : Int) + 1) = Value.int .i64 ((j + 1 : Nat) : Int)) := hide (congrArg (Value.int .i64) (by omega))
      have HNO : Hid (¬ (0 ≤ l1 ∧ l1 < (n : Int) ∧ 0 ≤ l2 ∧ l2 < 65536) → ¬ ∀ i, i < m → evOk n (L i)) := by
        intro h1 h2
        have := h2 j hlt
        rw [unhide HX1] at this
        exact h1 this
      by_cases a1 : l1 < 0
      · have a1' : decide (l1 < 0) = true := by simpa using a1
        go_wp2_with fail
        go_quiet (fail)
        go_wp2_with fail
        go_ret
        exact ⟨false, rfl, ⟨(fun h => by cases h), fun h => absurd h (unhide HNO (by omega))⟩, q + nq, by rw [World.drewN_drewN]⟩
      · have a1' : decide (l1 < 0) = false := by simpa using a1
        by_cases a2 : (n : Int) ≤ l1
        · have a2' : decide ((n : Int) ≤ l1) = true := by simpa using a2
          go_wp2_with fail
          go_quiet (fail)
          go_wp2_with fail
          go_ret
          exact ⟨false, rfl, ⟨(fun h => by cases h), fun h => absurd h (unhide HNO (by omega))⟩, q + nq, by rw [World.drewN_drewN]⟩
        · have a2' : decide ((n : Int) ≤ l1) = false := by simpa using a2
          by_cases a3 : l2 < 0
          · have a3' : decide (l2 < 0) = true := by simpa using a3
            go_wp2_with fail
            go_quiet (fail)
            go_wp2_with fail
            go_ret
            exact ⟨false, rfl, ⟨(fun h => by cases h), fun h => absurd h (unhide HNO (by omega))⟩, q + nq, by rw [World.drewN_drewN]⟩
          · have a3' : decide (l2 < 0) = false := by simpa using a3
            by_cases a4 : (65536 : Int) ≤ l2
            · have a4' : decide ((65536 : Int) ≤ l2) = true := by simpa using a4
              go_wp2_with fail
              go_quiet (fail)
              go_wp2_with fail
              go_ret
              exact ⟨false, rfl, ⟨(fun h => by cases h), fun h => absurd h (unhide HNO (by omega))⟩, q + nq, by rw [World.drewN_drewN]⟩
            · have a4' : decide ((65536 : Int) ≤ l2) = false := by simpa using a4
              go_wp2_with fail
              go_quiet (fail)
              go_wp2_with fail
              go_roundg (gk - 1)
              case measure => omega
              case rel => exact ⟨j + 1, q + nq, by omega, unhide hw1, rfl, fun i hi => by
                by_cases e : i = j
                · rw [e, unhide HX1]; exact ⟨by omega, by omega, by omega, by omega⟩
                · exact unhide HALL i (by omega)⟩
    · have hje : j = m := by omega
      subst hje
      have hlt' : decide ((j : Int) < (j : Int)) = false := by simp
      go_wp2_with fail
      go_ret
      exact ⟨true, rfl, ⟨fun _ => unhide HALL, fun _ => rfl⟩, q, rfl⟩

end Go.Proofs.Ytfcflnnleadpkaa

namespace Go.Proofs.Ytfcflnnleadpkaa
open Go.RowKit
variable {w w' : World}

/-- Pairs of numbers, as cells. -/
def twC (L : Nat → Int × Int) (m : Nat) : List Value := (List.range m).flatMap (fun i => [.int .i64 (L i).1, .int .i64 (L i).2])
theorem twC_len (L : Nat → Int × Int) (m : Nat) : (twC L m).length = m * 2 := by
  induction m with
  | zero => rfl
  | succ m ih =>
    have : twC L (m + 1) = twC L m ++ [.int .i64 (L m).1, .int .i64 (L m).2] := by unfold twC; rw [List.range_succ, List.flatMap_append]; rfl
    rw [this, List.length_append, ih]; simp; omega
theorem twC_succ (L : Nat → Int × Int) (m : Nat) : twC L m ++ [.int .i64 (L m).1, .int .i64 (L m).2] = twC L (m + 1) := by unfold twC; rw [List.range_succ, List.flatMap_append]; rfl
theorem twC_get (L : Nat → Int × Int) : ∀ (m i : Nat), i < m → (twC L m)[i * 2]? = some (.int .i64 (L i).1) ∧ (twC L m)[i * 2 + 1]? = some (.int .i64 (L i).2) := by
  intro m
  induction m with
  | zero => intro i hi; omega
  | succ m ih =>
    intro i hi
    rw [← twC_succ]
    have hl := twC_len L m
    by_cases e : i = m
    · subst e
      constructor
      · rw [List.getElem?_append_right (by omega), hl, Nat.sub_self]; rfl
      · rw [List.getElem?_append_right (by omega), hl, show i * 2 + 1 - i * 2 = 1 by omega]; rfl
    · obtain ⟨h1, h2⟩ := ih i (by omega)
      constructor
      · rw [List.getElem?_append_left (by omega)]; exact h1
      · rw [List.getElem?_append_left (by omega)]; exact h2
theorem evC_twC (es : List (Nat × Nat)) : evC es = twC (fun i => (((es.getD i (0, 0)).1 : Int), ((es.getD i (0, 0)).2 : Int))) es.length := by
  have key : ∀ (fs : List (Nat × Nat)) (k : Nat), evC (fs.take k) = twC (fun i => (((fs.getD i (0, 0)).1 : Int), ((fs.getD i (0, 0)).2 : Int))) (min k fs.length) := by
    intro fs k
    induction k with
    | zero => simp [evC, twC]
    | succ k ih =>
      by_cases hk : k < fs.length
      · rw [show min (k + 1) fs.length = min k fs.length + 1 by omega, ← twC_succ, ← ih, show min k fs.length = k by omega, List.take_add_one, evC_app]
        simp [evC, hk]
      · rw [show min (k + 1) fs.length = min k fs.length by omega, ← ih, List.take_of_length_le (by omega), List.take_of_length_le (by omega)]
  have := key es es.length
  simpa using this
/-- A row of events of one's own. -/
theorem SlE.own {B m : Nat} {ty : TypeId} {v : Value} {L : Nat → Int × Int} (h : w.ownsRow B ty 2 v m (twC L m)) : SlE w v m L := by
  rcases h.2 with ⟨rfl, e1⟩ | ⟨g, cap, cur, rfl, hb, hg, _, _, _, ht⟩
  · subst e1
    exact ⟨none, 0, rfl, fun _ => ⟨rfl, rfl⟩, fun i hi => by omega⟩
  · refine ⟨_, _, rfl, (fun h => by cases h), fun k hk => ⟨_, rfl, ?_, ?_⟩⟩
    · have e : (Addr.mk g 0 none).add (k * 2) = ⟨g, k * 2, none⟩ := by simp [Addr.add]; omega
      have h2 : (cur.toList.take (m * 2))[k * 2]? = some (.int .i64 (L k).1) := by rw [ht]; exact (twC_get L m k hk).1
      rw [List.getElem?_take_of_lt (by omega)] at h2
      simp only [Array.getElem?_toList] at h2
      rw [e, cell_of_row w g (k * 2) cur _ _ hg, h2]
    · have e : (Addr.mk g 0 none).add (k * 2 + 1) = ⟨g, k * 2 + 1, none⟩ := by simp [Addr.add]
      have h2 : (cur.toList.take (m * 2))[k * 2 + 1]? = some (.int .i64 (L k).2) := by rw [ht]; exact (twC_get L m k hk).2
      rw [List.getElem?_take_of_lt (by omega)] at h2
      simp only [Array.getElem?_toList] at h2
      rw [e, cell_of_row w g (k * 2 + 1) cur _ _ hg, h2]

theorem info_hevent : (Try.prog.info? 111).map (fun i => (i.zero, i.size, i.bytes)) = some (some (.agg #[.int .i64 0, .int .i64 0]), 2, 16) := by kernel_rfl


end Go.Proofs.Ytfcflnnleadpkaa

namespace Go.Proofs.Ytfcflnnleadpkaa
open Go.RowKit

/-- The inputs of the levels there are. -/
def inpN (n : Nat) (inp : Nat → List Nat) (d : Nat) : List Nat := if d < n then inp d else []
/-- What a run comes to. -/
def rnR (o s : ByteArray) (n : Nat) (inp : Nat → List Nat) (fuel : Nat) : RS × Nat := ecR (pE (cl o n) s n) (inpN n inp) fuel
def evL (es : List (Nat × Nat)) (i : Nat) : Int × Int := (((es.getD i (0, 0)).1 : Int), ((es.getD i (0, 0)).2 : Int))
/-- What the program's own Run must come to. -/
def RunAns (o s : ByteArray) (inp : Nat → List Nat) (fuel : Int) (e : Ending) (w' : World) : Prop :=
  ∃ (a p : Int) (n : Nat), CkPost o s a p n ∧ ((a ≠ 0 ∧ e = .returned (.tuple #[.slice none 0 0, .int .i64 0, .int .i64 a])) ∨
    (a = 0 ∧ p = 0 ∧ ¬ (0 ≤ fuel ∧ fuel ≤ 10000) ∧ e = .returned (.tuple #[.slice none 0 0, .int .i64 0, .int .i64 7])) ∨
    (a = 0 ∧ p = 0 ∧ ∃ (f : Nat) (v : Value), fuel = (f : Int) ∧ f ≤ 10000 ∧ SlE w' v (rnR o s n inp f).1.out.length (evL (rnR o s n inp f).1.out) ∧ e = .returned (.tuple #[v, .int .i64 ((rnR o s n inp f).2 : Int), .int .i64 0])))
def HushRun : Prop := ∀ (w : World) (o s : ByteArray) (iv : Value) (inp : Nat → List Nat) (fuel : Int), (∀ n, n ≤ 8 → InpR w iv n inp) →
  Calls Try.prog 27 #[.string o, .string s, iv, .int .i64 fuel] w fun e w' => RunAns o s inp fuel e w' ∧ Below w.heap.size w w'
theorem InpR.congr {w : World} {iv : Value} {n : Nat} {inp inp' : Nat → List Nat} (h : InpR w iv n inp) (e : ∀ d, d < n → inp' d = inp d) : InpR w iv n inp' := by
  obtain ⟨a, len, cap, rfl, h⟩ := h
  exact ⟨a, len, cap, rfl, fun d hd => by rw [e d hd]; exact h d hd⟩
theorem inpN_in {n d : Nat} {inp : Nat → List Nat} (h : d < n) : inpN n inp d = inp d := by unfold inpN; rw [if_pos h]
theorem inpN_out {n d : Nat} {inp : Nat → List Nat} (h : n ≤ d) : inpN n inp d = [] := by unfold inpN; rw [if_neg (by omega)]
theorem ecR_same {E E' : Env} (h : Same E E') (inp : Nat → List Nat) (fuel : Nat) : ecR E inp fuel = ecR E' inp fuel := by
  unfold ecR; rw [h.s, h.P, h.main]

theorem ecR_len (E : Env) (inp : Nat → List Nat) (fuel : Nat) : (ecR E inp fuel).1.out.length ≤ fuel := by
  obtain ⟨l, e, hl⟩ := (exS_grow (c := bt E.s) (inp := inp) (P := fun k => (E.P k).toNat) (F := E.s.size + 1) 10000 E.main 0 ⟨fun _ => 0, fun _ => 0, [], fuel⟩).out
  unfold ecR
  rw [e]
  simp only [List.nil_append]
  have h2 : l.length + (exS (bt E.s) inp (fun k => (E.P k).toNat) (E.s.size + 1) 10000 E.main 0 ⟨fun _ => 0, fun _ => 0, [], fuel⟩).1.fuel ≤ fuel := hl
  omega

set_option maxHeartbeats 400000 in
theorem fuelled_any (w : World) (x : Int) : Calls Try.prog 28 #[.int .i64 x] w fun e w' => e = .returned (.bool (decide (0 ≤ x ∧ x ≤ 10000))) ∧ w' = w := by
  by_cases h1 : 0 ≤ x
  · have h1' : decide ((0 : Int) ≤ x) = true := by simpa using h1
    by_cases h2 : x ≤ 10000
    · have HX := hide (show decide (0 ≤ x ∧ x ≤ 10000) = true by simp [h1, h2])
      rw [unhide HX]
      have h2' : decide (x ≤ 10000) = true := by simpa using h2
      go_enter Try.func28, Try.ntmps28
      go_wp2_with fail
      go_ret
      exact ⟨rfl, rfl⟩
    · have HX := hide (show decide (0 ≤ x ∧ x ≤ 10000) = false by simp [h2])
      rw [unhide HX]
      have h2' : decide (x ≤ 10000) = false := by simpa using h2
      go_enter Try.func28, Try.ntmps28
      go_wp2_with fail
      go_ret
      exact ⟨rfl, rfl⟩
  · have HX := hide (show decide (0 ≤ x ∧ x ≤ 10000) = false by simp [h1])
    rw [unhide HX]
    have h1' : decide ((0 : Int) ≤ x) = false := by simpa using h1
    go_enter Try.func28, Try.ntmps28
    go_wp2_with fail
    go_ret
    exact ⟨rfl, rfl⟩


end Go.Proofs.Ytfcflnnleadpkaa

namespace Go.Proofs.Ytfcflnnleadpkaa
open Go.RowKit

theorem rnR_zero (o s : ByteArray) (n : Nat) (inp : Nat → List Nat) : rnR o s n inp 0 = (⟨fun _ => 0, fun _ => 0, [], 0⟩, 0) := exS_spent rfl

theorem rnR_more {o s : ByteArray} {n : Nat} {inp : Nat → List Nat} {f g : Nat} (hfg : f ≤ g) (hg : g ≤ 10000) :
    ((rnR o s n inp f).2 ≠ 0 ∧ (rnR o s n inp g).1.out = (rnR o s n inp f).1.out ∧ (rnR o s n inp g).2 = (rnR o s n inp f).2) ∨ ((rnR o s n inp f).2 = 0 ∧ (rnR o s n inp f).1.out <+: (rnR o s n inp g).1.out) := by
  have h := exS_more (c := bt (pE (cl o n) s n).s) (inp := inpN n inp) (P := fun k => ((pE (cl o n) s n).P k).toNat) (F := (pE (cl o n) s n).s.size + 1) (x := g - f) 10000 (pE (cl o n) s n).main 0 ⟨fun _ => 0, fun _ => 0, [], f⟩ (by show f + (g - f) ≤ 10000; omega)
  have e : addF ⟨fun _ => 0, fun _ => 0, [], f⟩ (g - f) = ⟨fun _ => 0, fun _ => 0, [], g⟩ := by
    unfold addF
    congr 1
    show f + (g - f) = g
    omega
  rw [e] at h
  rcases h with ⟨h0, h1⟩ | h
  · left
    have h2 : rnR o s n inp g = (addF (rnR o s n inp f).1 (g - f), (rnR o s n inp f).2) := h1
    exact ⟨h0, by rw [h2]; rfl, by rw [h2]⟩
  · exact Or.inr h
theorem rnR_end (o s : ByteArray) (n : Nat) (inp : Nat → List Nat) (f : Nat) : (rnR o s n inp f).2 ≤ 2 := exS_end _ _ _ _
theorem rnR_len (o s : ByteArray) (n : Nat) (inp : Nat → List Nat) (f : Nat) : (rnR o s n inp f).1.out.length ≤ f := ecR_len _ _ _
theorem rnR_sane {o s : ByteArray} {n : Nat} {inp : Nat → List Nat} {f : Nat} (K : Known o s n) (hin : ∀ d, d < n → ∀ x, x ∈ inp d → x < 65536) : ∀ e ∈ (rnR o s n inp f).1.out, e.1 < n ∧ e.2 < 65536 := by
  obtain ⟨j, hj⟩ := K.Q.main
  have h := exS_sane (c := bt s) (nv := prNv s n) (n := n) (np := (prPs s n).length) (inp := inpN n inp) (P := fun k => ((pE (cl o n) s n).P k).toNat) (F := s.size + 1) (fun d x hx => by
      unfold inpN at hx
      split at hx
      · rename_i hd; exact hin d hd x hx
      · simp at hx) (fun k hk => by
      obtain ⟨m, j', e, hm⟩ := K.Q.proc k hk
      refine ⟨j', ?_⟩
      show wfS (bt s) (prNv s n) n (prPs s n).length (s.size + 1) ((pE (cl o n) s n).P k).toNat = _
      rw [show ((pE (cl o n) s n).P k).toNat = m by omega]
      exact hm) 10000 (s.size + 1) (pE (cl o n) s n).main j 0 ⟨fun _ => 0, fun _ => 0, [], f⟩ hj (Nat.le_refl _) ⟨fun _ => by show 0 < 65536; omega, fun e he => by simp at he⟩
  exact h.out
theorem evL_pre {l l' : List (Nat × Nat)} (h : l <+: l') : l.length ≤ l'.length ∧ ∀ i, i < l.length → evL l i = evL l' i := by
  obtain ⟨m, rfl⟩ := h
  refine ⟨by simp, fun i hi => ?_⟩
  unfold evL
  have : (l ++ m).getD i (0, 0) = l.getD i (0, 0) := by simp [List.getElem?_append_left hi]
  rw [this]
theorem evL_ok {n : Nat} {l : List (Nat × Nat)} (h : ∀ e ∈ l, e.1 < n ∧ e.2 < 65536) : ∀ i, i < l.length → evOk n (evL l i) := by
  intro i hi
  have hm : l.getD i (0, 0) ∈ l := by simp [hi]
  have := h _ hm
  unfold evOk evL
  simp only
  omega

end Go.Proofs.Ytfcflnnleadpkaa

namespace Go.Proofs.Ytfcflnnleadpkaa
open Go.RowKit

def HushOrder : Prop := ∀ (w : World) (s : ByteArray), Calls Try.prog 14 #[.string s] w fun e w' => (∃ (a p : Int) (n : Nat), ReadPost s a p n ∧ e = .returned (.tuple #[.int .i64 a, .int .i64 p])) ∧ Below w.heap.size w w'

set_option maxHeartbeats 1600000 in
set_option maxRecDepth 10000 in
theorem Agree_walk (HO : HushOrder) (H1 : HushCheck) (H2 : HushLabels) (H3 : HushRun) (w : World) (o s : ByteArray) :
    Calls Try.prog 11 #[.string o, .string s] w fun e w' => e = .returned (.bool true) ∧ Below w.heap.size w w' := by
  have HC0 := hide HO
  have HC1 := hide H1
  have HC2 := hide H2
  have HC3 := hide H3
  clear HO H1 H2 H3
  have hnil : ∀ w, (binOp .eql 46 (.slice none 0 0) (.slice none 0 0)).run Try.prog w = .ok (.bool true) w := fun w => Lib.run_eql_slice_nil w _ _ none 0 0 0 0 Try.underlying46
  go_enter Try.func11, Try.ntmps11
  go_wp2_with fail
  refine (unhide HC0 _ _).mono ?_
  rintro e w0 ⟨⟨b, q, m, hrd, rfl⟩, hb0⟩
  have HRD := hide hrd
  have HB0 := hide hb0
  clear hrd hb0
  go_wp2_with fail
  refine (unhide HC1 _ _ _).mono ?_
  rintro e w1 ⟨⟨a, p, n, hr, rfl⟩, hb1⟩
  have HR := hide hr
  have HB1 := hide ((unhide HB0).trans (hb1.mono (unhide HB0).size))
  clear hr hb1
  have HAB : Hid (b ≠ 0 → a = b) := by
    intro h0
    rcases CkPost_read (unhide HR) with ⟨b', q', h1, _, h3, _⟩ | ⟨h1, _⟩ | ⟨h1, _⟩
    · rw [h3]; exact (ReadPost_uniq h1 (unhide HRD)).1
    · exact absurd (ReadPost_uniq h1 (unhide HRD)).1.symm h0
    · exact absurd (ReadPost_uniq h1 (unhide HRD)).1.symm h0
  go_wp2_with fail
  refine (unhide HC2 _ _ _).mono ?_
  rintro e w2 ⟨⟨a', p', n', hr', hans⟩, hb2⟩
  obtain ⟨rfl, rfl, rfl⟩ := CkPost_uniq (unhide HR) hr'
  have HB2 := hide ((unhide HB1).trans (hb2.mono (unhide HB1).size))
  clear hr' hb2
  have HN0 := hide (show ∀ k, k ≤ 8 → InpR w2 (.slice none 0 0) k (fun _ => []) from fun k _ => ⟨none, 0, 0, rfl, fun d _ => ⟨fun h => by omega, fun _ => rfl⟩⟩)
  rcases hans with ⟨ha, rfl⟩ | ⟨rfl, rfl, u, hu, rfl⟩
  · have ha' : decide (a = 0) = false := by simpa using ha
    go_wp2_with fail
    refine (unhide HC3 _ _ _ _ _ _ (unhide HN0)).mono ?_
    rintro e w3 ⟨⟨a', p', n', hr', hans⟩, hb3⟩
    obtain ⟨rfl, rfl, rfl⟩ := CkPost_uniq (unhide HR) hr'
    have HB3 := hide ((unhide HB2).trans (hb3.mono (unhide HB2).size))
    clear hr' hb3
    rcases hans with ⟨_, rfl⟩ | ⟨h0, _⟩ | ⟨h0, _⟩
    · go_wp2_with fail
      refine (Check_any _ _ _).mono ?_
      rintro e w4 ⟨⟨a', p', n', hr', hans⟩, hb4⟩
      obtain ⟨rfl, rfl, rfl⟩ := CkPost_uniq (unhide HR) hr'
      have HB4 := hide ((unhide HB3).trans (hb4.mono (unhide HB3).size))
      clear hr' hb4
      rcases hans with ⟨_, rfl⟩ | ⟨h0, _⟩
      · by_cases hb0 : b = 0
        · subst hb0
          go_wp2_with (go_at_call 16; refine (num_any _ _).mono ?_; rintro e w' ⟨rfl, rfl⟩)
          go_ret
          exact ⟨rfl, unhide HB4⟩
        · have hb0' : decide (b = 0) = false := by simpa using hb0
          have hab := unhide HAB hb0
          subst hab
          go_wp2_with (go_at_call 16; refine (num_any _ _).mono ?_; rintro e w' ⟨rfl, rfl⟩)
          go_ret
          exact ⟨rfl, unhide HB4⟩
      · exact absurd h0 ha
    · exact absurd h0 ha
    · exact absurd h0 ha
  · have hb0 : b = 0 := by
      rcases Classical.em (b = 0) with h | h
      · exact h
      · exact absurd (unhide HAB h).symm h
    subst hb0
    clear hu
    go_wp2_with fail
    refine (unhide HC3 _ _ _ _ _ _ (unhide HN0)).mono ?_
    rintro e w3 ⟨⟨a', p', n', hr', hans⟩, hb3⟩
    obtain ⟨rfl, rfl, rfl⟩ := CkPost_uniq (unhide HR) hr'
    have HB3 := hide ((unhide HB2).trans (hb3.mono (unhide HB2).size))
    clear hr' hb3
    rcases hans with ⟨h0, _⟩ | ⟨_, _, h0, _⟩ | ⟨_, _, f, v, hf, _, hsl, rfl⟩
    · exact absurd rfl h0
    · exact absurd (by omega) h0
    · have hf0 : f = 0 := by omega
      subst hf0
      clear hf
      rw [rnR_zero] at hsl
      obtain ⟨va, vc, rfl, _, _⟩ := hsl
      rw [rnR_zero]
      go_wp2_with fail
      refine (Check_any _ _ _).mono ?_
      rintro e w4 ⟨⟨a', p', n', hr', hans⟩, hb4⟩
      obtain ⟨rfl, rfl, rfl⟩ := CkPost_uniq (unhide HR) hr'
      have HB4 := hide ((unhide HB3).trans (hb4.mono (unhide HB3).size))
      clear hr' hb4
      rcases hans with ⟨h0, _⟩ | ⟨_, _, E, _, _, _, _, rfl⟩
      · exact absurd rfl h0
      · go_wp2_with (go_at_call 16; refine (num_any _ _).mono ?_; rintro e w' ⟨rfl, rfl⟩)
        go_ret
        exact ⟨rfl, unhide HB4⟩

end Go.Proofs.Ytfcflnnleadpkaa

namespace Go.Proofs.Ytfcflnnleadpkaa
open Go.RowKit

/-! The program's own run, in memory. -/

/-- The cells of a run, by index. -/
def rnF (P : Nat → Value) (iv : Value) (tk V : Nat → Nat) (fu ca : Nat) (ov : Value) (k : Nat) : Value :=
  if k < 912 then P k else if k = 912 then iv else if k < 921 then .int .i64 (tk (k - 913) : Int) else if k < 929 then .int .i64 (V (k - 921) : Int)
  else if k = 929 then .int .i64 (fu : Int) else if k = 930 then .int .i64 (ca : Int) else ov
/-- What stays of a run. -/
structure RD where
  b : Nat
  D : FD
  iv : Value
  inp : Nat → List Nat
  w0 : World
def pgF (D : FD) : Nat → Value := prgF 0 0 D.s D.n D.nv D.np D.S D.T D.cv
def rnA (G : RD) (ov : Value) (st : RS) (k : Nat) : Array Value := rowF (rnF (pgF G.D) G.iv st.tk st.V st.fuel k ov) 932
structure PAt (G : RD) (w : World) (ov : Value) (st : RS) (k : Nat) : Prop where
  rn : w.heap[G.b]? = some (.cells (rnA G ov st k) 106 (0, 0))
  out : w.ownsRow G.w0.heap.size 111 2 ov st.out.length (evC st.out)
  bel : Below G.w0.heap.size G.w0 w
structure QK (G : RD) (F : Nat) : Prop where
  K : GOk G.D F
  b0 : G.w0.heap.size ≤ G.b
  I : InpR G.w0 G.iv G.D.n G.inp
  ib : ∀ d, G.D.n ≤ d → G.inp d = []
def exD (G : RD) (F g i k : Nat) (st : RS) : RS × Nat := exS (bt G.D.s) G.inp (fun k => (G.D.S (k + 1)).toNat) F g i k st

variable {G : RD} {F : Nat} {w w' w1 wa : World} {ov : Value} {st : RS} {k : Nat}

theorem rnF_pg {P : Nat → Value} {iv ov : Value} {tk V : Nat → Nat} {fu ca k : Nat} (h : k < 912) : rnF P iv tk V fu ca ov k = P k := by unfold rnF; rw [if_pos h]
theorem rnF_tk {P : Nat → Value} {iv ov : Value} {tk V : Nat → Nat} {fu ca k : Nat} (h : k < 8) : rnF P iv tk V fu ca ov (913 + k) = .int .i64 (tk k : Int) := by
  unfold rnF; rw [if_neg (by omega), if_neg (by omega), if_pos (by omega), show 913 + k - 913 = k by omega]
theorem rnF_va {P : Nat → Value} {iv ov : Value} {tk V : Nat → Nat} {fu ca k : Nat} (h : k < 8) : rnF P iv tk V fu ca ov (921 + k) = .int .i64 (V k : Int) := by
  unfold rnF; rw [if_neg (by omega), if_neg (by omega), if_neg (by omega), if_pos (by omega), show 921 + k - 921 = k by omega]

theorem PAt.lt (h : PAt G w ov st k) : G.b < w.heap.size := (Array.getElem?_eq_some_iff.1 h.rn).1
theorem PAt.tx (h : PAt G w ov st k) : w.cell? ⟨G.b, 2, none⟩ = some (.string G.D.s) := (rowF_cell h.rn (by omega)).trans rfl
theorem PAt.cv (h : PAt G w ov st k) : w.cell? ⟨G.b, 4, none⟩ = some (.int .i64 (G.D.nv : Int)) := (rowF_cell h.rn (by omega)).trans rfl
theorem PAt.ps (h : PAt G w ov st k) {j : Nat} (hj : j < 5) : w.cell? ⟨G.b, 6 + j, none⟩ = some (.int .i64 (G.D.S j)) := by
  rw [rowF_cell h.rn (by omega), rnF_pg (by omega)]
  unfold pgF prgF
  rw [if_neg (by omega), if_neg (by omega), if_neg (by omega), if_neg (by omega), if_neg (by omega), if_neg (by omega), if_pos (by omega), show 6 + j - 6 = j by omega]
theorem PAt.pt (h : PAt G w ov st k) {i j : Nat} (hi : i < 300) (hj : j < 3) : w.cell? ⟨G.b, 11 + i * 3 + j, none⟩ = some (.int .i64 (G.D.T i j)) := by
  rw [rowF_cell h.rn (by omega), rnF_pg (by omega)]
  unfold pgF prgF
  rw [if_neg (by omega), if_neg (by omega), if_neg (by omega), if_neg (by omega), if_neg (by omega), if_neg (by omega), if_neg (by omega), if_pos (by omega), show (11 + i * 3 + j - 11) / 3 = i by omega, show (11 + i * 3 + j - 11) % 3 = j by omega]
theorem PAt.ci (h : PAt G w ov st k) : w.cell? ⟨G.b, 912, none⟩ = some G.iv := (rowF_cell h.rn (by omega)).trans rfl
theorem PAt.ck (h : PAt G w ov st k) {d : Nat} (hd : d < 8) : w.cell? ⟨G.b, 913 + d, none⟩ = some (.int .i64 (st.tk d : Int)) := by rw [rowF_cell h.rn (by omega), rnF_tk hd]
theorem PAt.ca (h : PAt G w ov st k) {v : Nat} (hv : v < 8) : w.cell? ⟨G.b, 921 + v, none⟩ = some (.int .i64 (st.V v : Int)) := by rw [rowF_cell h.rn (by omega), rnF_va hv]
theorem PAt.cf (h : PAt G w ov st k) : w.cell? ⟨G.b, 929, none⟩ = some (.int .i64 (st.fuel : Int)) := (rowF_cell h.rn (by omega)).trans rfl
theorem PAt.cc (h : PAt G w ov st k) : w.cell? ⟨G.b, 930, none⟩ = some (.int .i64 (k : Int)) := (rowF_cell h.rn (by omega)).trans rfl
theorem PAt.co (h : PAt G w ov st k) : w.cell? ⟨G.b, 931, none⟩ = some ov := (rowF_cell h.rn (by omega)).trans rfl
theorem PAt.fz (h : PAt G w ov st k) (j : Nat) : w.frozen? ⟨G.b, j, none⟩ = false := frozen_of_row w _ j _ _ h.rn
theorem PAt.ob (h : PAt G w ov st k) {g : Nat} (hg : ov.ownBlock = some g) : G.w0.heap.size ≤ g ∧ g < w.heap.size := h.out.lt g hg
theorem PAt.ot (h : PAt G w ov st k) {g : Nat} (hg : ov.ownBlock = some g) : ∃ cur, w.heap[g]? = some (.cells cur 111 (0, 0)) := by
  rcases h.out.2 with ⟨e, _⟩ | ⟨g', cap, cur, e, _, hc, _⟩
  · rw [e] at hg; cases hg
  · rw [e] at hg
    simp [Value.ownBlock] at hg
    subst hg
    exact ⟨cur, hc⟩
theorem PAt.on (h : PAt G w ov st k) {g : Nat} (hg : ov.ownBlock = some g) : g ≠ G.b := by
  obtain ⟨cur, hc⟩ := h.ot hg
  exact ne_of_types hc h.rn (by decide)
theorem PAt.drewN (h : PAt G w ov st k) (q : Nat) : PAt G (w.drewN q) ov st k := ⟨h.rn, h.out, below_drewN2 h.bel q⟩
theorem PAt.drew (h : PAt G w ov st k) : PAt G w.drew ov st k := h.drewN 1
theorem PAt.below (h : PAt G w ov st k) (hb : Below w.heap.size w w') : PAt G w' ov st k :=
  ⟨(hb.block _ h.lt).trans h.rn, ownsRow_keep2 h.out (fun g hg => hb.block g (h.ob hg).2), h.bel.trans (hb.mono h.bel.size)⟩
theorem PAt.alloc (h : PAt G w ov st k) (X : Obj) : PAt G (w.alloc X) ov st k := h.below ((Below.refl _ _).alloc (Nat.le_refl _) X)
/-- A cell of the run turned. -/
theorem PAt.setC (b0 : G.w0.heap.size ≤ G.b) (h : PAt G w ov st k) {j k' : Nat} {v : Value} {st' : RS} (ho : st'.out = st.out) (he : (rnA G ov st k).setIfInBounds j v = rnA G ov st' k') : PAt G (w.setCell ⟨G.b, j, none⟩ v) ov st' k' := by
  have hx : ∀ b, b ≠ G.b → (w.setCell ⟨G.b, j, none⟩ v).heap[b]? = w.heap[b]? := fun b hb => Below.heap_setCell w _ _ b hb
  refine ⟨?_, ?_, h.bel.trans ⟨rfl, rfl, rfl, by simp [World.setCell], fun b hb => hx b (by omega)⟩⟩
  · rw [setCell_eq_setRow w G.b j _ _ _ _ h.rn, he]; exact setRow_heap w G.b _ _ _ _ h.rn
  · rw [ho]; exact ownsRow_keep2 h.out (fun g hg => hx _ (h.on hg))
set_option maxRecDepth 100000 in
theorem PAt.setV (b0 : G.w0.heap.size ≤ G.b) (h : PAt G w ov st k) {v x : Nat} (hv : v < 8) : PAt G (w.setCell ⟨G.b, 921 + v, none⟩ (.int .i64 (x : Int))) ov { st with V := setF st.V v x } k := by
  refine h.setC b0 (st' := { st with V := setF st.V v x }) rfl (rowF_set ?_ (fun j hj hne => ?_))
  · rw [rnF_va hv]
    show Value.int .i64 ((setF st.V v x v : Nat) : Int) = _
    unfold setF; rw [if_pos rfl]
  · show rnF _ _ _ _ _ _ _ _ = rnF _ _ _ (setF st.V v x) _ _ _ _
    unfold rnF
    by_cases h1 : j < 921
    · repeat' split
      all_goals first | omega | rfl
    · by_cases h2 : j < 929
      · rw [if_neg (by omega), if_neg (by omega), if_neg (by omega), if_pos (by omega), if_neg (by omega), if_neg (by omega), if_neg (by omega), if_pos (by omega)]
        unfold setF; rw [if_neg (by omega)]
      · repeat' split
        all_goals first | omega | rfl
set_option maxRecDepth 100000 in
theorem PAt.setTk (b0 : G.w0.heap.size ≤ G.b) (h : PAt G w ov st k) {d x : Nat} (hd : d < 8) : PAt G (w.setCell ⟨G.b, 913 + d, none⟩ (.int .i64 (x : Int))) ov { st with tk := setF st.tk d x } k := by
  refine h.setC b0 (st' := { st with tk := setF st.tk d x }) rfl (rowF_set ?_ (fun j hj hne => ?_))
  · rw [rnF_tk hd]
    show Value.int .i64 ((setF st.tk d x d : Nat) : Int) = _
    unfold setF; rw [if_pos rfl]
  · show rnF _ _ _ _ _ _ _ _ = rnF _ _ (setF st.tk d x) _ _ _ _ _
    unfold rnF
    by_cases h1 : j < 913
    · repeat' split
      all_goals first | omega | rfl
    · by_cases h2 : j < 921
      · rw [if_neg (by omega), if_neg (by omega), if_pos (by omega), if_neg (by omega), if_neg (by omega), if_pos (by omega)]
        unfold setF; rw [if_neg (by omega)]
      · repeat' split
        all_goals first | omega | rfl
theorem PAt.setFu (b0 : G.w0.heap.size ≤ G.b) (h : PAt G w ov st k) {x : Nat} : PAt G (w.setCell ⟨G.b, 929, none⟩ (.int .i64 (x : Int))) ov { st with fuel := x } k := by
  refine h.setC b0 (st' := { st with fuel := x }) rfl (rowF_set rfl (fun j hj hne => ?_))
  show rnF _ _ _ _ _ _ _ _ = rnF _ _ _ _ x _ _ _
  unfold rnF
  repeat' split
  all_goals first | omega | rfl
theorem PAt.setCa (b0 : G.w0.heap.size ≤ G.b) (h : PAt G w ov st k) {x : Nat} : PAt G (w.setCell ⟨G.b, 930, none⟩ (.int .i64 (x : Int))) ov st x := by
  refine h.setC b0 (st' := st) rfl (rowF_set rfl (fun j hj hne => ?_))
  unfold rnF
  repeat' split
  all_goals first | omega | rfl
set_option maxRecDepth 100000 in
/-- One event more. -/
theorem PAt.push {gg cap d x : Nat} (b0 : G.w0.heap.size ≤ G.b) (h : PAt G w ov st k) (hwa : wa.heap.size = w.heap.size + 1) (hab : Below w.heap.size w wa)
    (hown1 : w1.ownsRow G.w0.heap.size 111 2 (.slice (some ⟨gg, 0, none⟩) (st.out.length + 1) cap) (st.out.length + 1) (evC st.out ++ [.int .i64 (d : Int), .int .i64 (x : Int)]))
    (hgrow : wa.grownBy w1 ov.ownBlock) :
    PAt G (w1.setCell ⟨G.b, 931, none⟩ (.slice (some ⟨gg, 0, none⟩) (st.out.length + 1) cap)) (.slice (some ⟨gg, 0, none⟩) (st.out.length + 1) cap) { st with out := st.out ++ [(d, x)] } k := by
  have hrb := h.lt
  have hr1 : w1.heap[G.b]? = some (.cells (rnA G ov st k) 106 (0, 0)) :=
    (hgrow.block G.b (by omega) (fun e => h.on e.symm rfl)).trans ((hab.block G.b hrb).trans h.rn)
  have hset : (rnA G ov st k).setIfInBounds 931 (.slice (some ⟨gg, 0, none⟩) (st.out.length + 1) cap) = rnA G (.slice (some ⟨gg, 0, none⟩) (st.out.length + 1) cap) { st with out := st.out ++ [(d, x)] } k := by
    refine rowF_set rfl (fun j hj hne => ?_)
    unfold rnF
    repeat' split
    all_goals first | omega | rfl
  rw [setCell_eq_setRow w1 G.b _ _ _ _ _ hr1, hset]
  have ho : ∀ b, b ≠ G.b → (w1.setRow G.b (rnA G (.slice (some ⟨gg, 0, none⟩) (st.out.length + 1) cap) { st with out := st.out ++ [(d, x)] } k)).heap[b]? = w1.heap[b]? := fun b hb => setRow_other w1 G.b b _ hb
  refine ⟨setRow_heap w1 G.b _ _ _ _ hr1, ?_, ?_⟩
  · have e : evC (st.out ++ [(d, x)]) = evC st.out ++ [.int .i64 (d : Int), .int .i64 (x : Int)] := by rw [evC_app]; rfl
    show World.ownsRow _ _ _ _ _ (st.out ++ [(d, x)]).length (evC (st.out ++ [(d, x)]))
    rw [e, List.length_append]
    refine ownsRow_keep2 hown1 (fun g hg => ?_)
    simp [Value.ownBlock] at hg
    subst hg
    rcases hown1.2 with ⟨e2, _⟩ | ⟨g', cap', cur, e2, _, hc, _⟩
    · cases e2
    · injection e2 with e2 _ _
      injection e2 with e2
      injection e2 with e2 _ _
      subst e2
      exact ho _ (ne_of_types hc hr1 (by decide))
  · refine h.bel.trans ⟨hgrow.os.trans hab.os, hgrow.tape.trans hab.tape, hgrow.output.trans hab.output, ?_, fun b hb => ?_⟩
    · have := hgrow.size
      simp
      omega
    · have hlt : b < w.heap.size := by have := h.bel.size; omega
      refine (ho b (by omega)).trans ((hgrow.block b (by omega) (fun e => ?_)).trans (hab.block b hlt))
      have := (h.ob e.symm).1
      omega

theorem QK.inp (K : QK G F) : ∀ d x, x ∈ G.inp d → x < 65536 := by
  intro d x hx
  rcases Nat.lt_or_ge d G.D.n with hd | hd
  · exact K.I.lt d hd x hx
  · rw [K.ib d hd] at hx; simp at hx
theorem QK.ex (K : QK G F) (h : RunI G.D.n st) {g f i j : Nat} (hw : wfS (bt G.D.s) G.D.nv G.D.n G.D.np f i = (j, false)) (hf : f ≤ F) : RunI G.D.n (exD G F g i k st).1 := by
  refine h.of ?_ (exS_grow _ _ _ _)
  refine exS_sane (nv := G.D.nv) (np := G.D.np) K.inp (fun p hp => ?_) g f i j k st hw hf h.sane
  obtain ⟨m, j', e, hm⟩ := K.K.Q.proc p hp
  refine ⟨j', ?_⟩
  have e' : G.D.S (p + 1) = (m : Int) := e
  rw [e', show ((m : Int)).toNat = m by omega]
  exact hm

end Go.Proofs.Ytfcflnnleadpkaa
