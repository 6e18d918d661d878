import Derived.Test.YtfcflnnleadpkaaGreatKgJ
import Derived.Test.YtfcflnnleadpkaaGreatYaJ
import Derived.Test.YtfcflnnleadpkaaGreatTgJ
namespace Go.Proofs.YtfcflnnleadpkaaGreat
open Go.RowKit

/-- A reader's state: the fault, the calls, the table of parts. -/
structure RdS where
  e : Int
  p : Int
  C : List Nat
  T : Nat → Nat → Int
def refR (r : RdS) (pl : Nat) : RdS := if r.e = 0 then { r with e := 4, p := (pl : Int) } else r
def setT (T : Nat → Nat → Int) (a i : Nat) (x : Int) : Nat → Nat → Int := fun k j => if k = a ∧ j = i then x else T k j
/-- The parts that a byte asks for, one behind the other. -/
def rdL (g : Int → Nat → RdS → Nat × RdS) (a : Nat) (inn : ByteArray) : Nat → Nat → Nat → RdS → Nat × RdS
  | 0, _, nx, r => (nx, r)
  | m + 1, i, nx, r => rdL g a inn m (i + 1) (g (bt inn i) nx { r with T := setT r.T a i nx }).1 (g (bt inn i) nx { r with T := setT r.T a i nx }).2
/-- A part. -/
def rdP (c : Nat → Int) (sz nv N : Nat) : Nat → Int → Nat → RdS → Nat × RdS
  | 0, _, a, r => (a, r)
  | f + 1, k, a, r =>
    if r.e = 0 then
      (if a < sz then
        (match ptI nv N k (c a) with
          | none => (a, refR r a)
          | some inn => rdL (rdP c sz nv N f) a inn inn.size 0 (a + 1) (if k = 112 then { r with C := r.C ++ [a] } else r))
       else (a, refR r a))
    else (a, r)
section
variable {c : Nat → Int} {sz nv N f a : Nat} {k : Int} {r : RdS}
theorem rdP_flt (h : r.e ≠ 0) : rdP c sz nv N (f + 1) k a r = (a, r) := by simp only [rdP]; rw [if_neg h]
theorem rdP_end (h : r.e = 0) (h2 : ¬ a < sz) : rdP c sz nv N (f + 1) k a r = (a, refR r a) := by simp only [rdP]; rw [if_pos h, if_neg h2]
theorem rdP_bad (h : r.e = 0) (h2 : a < sz) (h3 : ptI nv N k (c a) = none) : rdP c sz nv N (f + 1) k a r = (a, refR r a) := by simp only [rdP]; rw [if_pos h, if_pos h2, h3]
theorem rdP_go {inn : ByteArray} (h : r.e = 0) (h2 : a < sz) (h3 : ptI nv N k (c a) = some inn) : rdP c sz nv N (f + 1) k a r = rdL (rdP c sz nv N f) a inn inn.size 0 (a + 1) (if k = 112 then { r with C := r.C ++ [a] } else r) := by
  simp only [rdP]; rw [if_pos h, if_pos h2, h3]
theorem refR_C {pl : Nat} : (refR r pl).C = r.C := by unfold refR; split <;> rfl
theorem refR_T {pl : Nat} : (refR r pl).T = r.T := by unfold refR; split <;> rfl
theorem rdP_pos : ∀ (f : Nat) (k : Int) (a : Nat) (r : RdS), a ≤ sz → r.C.length ≤ a → a ≤ (rdP c sz nv N f k a r).1 ∧ (rdP c sz nv N f k a r).1 ≤ sz ∧ (rdP c sz nv N f k a r).2.C.length ≤ (rdP c sz nv N f k a r).1 := by
  intro f
  induction f with
  | zero => intro k a r h1 h2; exact ⟨Nat.le_refl _, h1, h2⟩
  | succ f ih =>
    intro k a r h1 h2
    have hL : ∀ (inn : ByteArray) (m i nx : Nat) (r : RdS), nx ≤ sz → r.C.length ≤ nx → nx ≤ (rdL (rdP c sz nv N f) a inn m i nx r).1 ∧ (rdL (rdP c sz nv N f) a inn m i nx r).1 ≤ sz ∧ (rdL (rdP c sz nv N f) a inn m i nx r).2.C.length ≤ (rdL (rdP c sz nv N f) a inn m i nx r).1 := by
      intro inn m
      induction m with
      | zero => intro i nx r h1 h2; exact ⟨Nat.le_refl _, h1, h2⟩
      | succ m ihm =>
        intro i nx r h1 h2
        obtain ⟨a1, a2, a3⟩ := ih (bt inn i) nx { r with T := setT r.T a i nx } h1 h2
        obtain ⟨b1, b2, b3⟩ := ihm (i + 1) _ _ a2 a3
        simp only [rdL]
        exact ⟨Nat.le_trans a1 b1, b2, b3⟩
    by_cases he : r.e = 0
    · by_cases hs : a < sz
      · cases hp : ptI nv N k (c a) with
        | none => rw [rdP_bad he hs hp, refR_C]; exact ⟨Nat.le_refl _, h1, h2⟩
        | some inn =>
          rw [rdP_go he hs hp]
          have hC : (if k = 112 then { r with C := r.C ++ [a] } else r).C.length ≤ a + 1 := by
            by_cases hk : k = 112
            · rw [if_pos hk]; simp; omega
            · rw [if_neg hk]; omega
          obtain ⟨b1, b2, b3⟩ := hL inn inn.size 0 (a + 1) _ (by omega) hC
          exact ⟨by omega, b2, b3⟩
      · rw [rdP_end he hs, refR_C]; exact ⟨Nat.le_refl _, h1, h2⟩
    · rw [rdP_flt he]; exact ⟨Nat.le_refl _, h1, h2⟩
end
/-- The parts that there are. -/
def Knd (k : Int) : Prop := k = 115 ∨ k = 101 ∨ k = 118 ∨ k = 108 ∨ k = 112
theorem bs_kinds {l : List UInt8} (h : l.all (fun x => x == 115 || x == 101 || x == 118 || x == 108 || x == 112) = true) (m : Nat) (hm : m < (bs l).size) : Knd (bt (bs l) m) := by
  have hm' : m < l.length := hm
  have e : bt (bs l) m = ((l[m]'hm').toNat : Int) := by
    rw [← bt_eq (bs l) m hm]; rfl
  rw [e]
  have h1 := List.all_eq_true.1 h _ (List.getElem_mem hm')
  simp at h1
  unfold Knd
  rcases h1 with (((h1 | h1) | h1) | h1) | h1 <;> rw [h1] <;> simp
theorem ptI_kinds {nv N : Nat} {k c : Int} {inn : ByteArray} (h : ptI nv N k c = some inn) : inn.size ≤ 3 ∧ ∀ m, m < inn.size → Knd (bt inn m) := by
  have key : ∀ l : List UInt8, some (bs l) = some inn → l.length ≤ 3 → l.all (fun x => x == 115 || x == 101 || x == 118 || x == 108 || x == 112) = true → inn.size ≤ 3 ∧ ∀ m, m < inn.size → Knd (bt inn m) := by
    intro l e h1 h2
    cases e
    exact ⟨h1, fun m hm => bs_kinds h2 m hm⟩
  unfold ptI stI exI yesI at h
  repeat' split at h
  all_goals first | (cases h; done) | exact key _ h (by decide) (by decide)

/-- A program that is being read, in memory. -/
structure PR (B : Nat) (w : World) (b : Nat) (s : ByteArray) (N nv np : Nat) (S : Nat → Int) (r : RdS) (v : Value) : Prop where
  pr : w.heap[b]? = some (.cells (prgC r.e r.p s N nv np S r.T v) 52 (0, 0))
  own : w.ownsRow B 3 1 v r.C.length (cells r.C)
variable {B : Nat} {w w' w'' : World} {b : Nat} {s : ByteArray} {N nv np : Nat} {S : Nat → Int} {r r' : RdS} {v v' : Value}
theorem PR.c0 (h : PR B w b s N nv np S r v) : w.cell? ⟨b, 0, none⟩ = some (.int .i64 r.e) := (rowF_cell h.pr (by omega)).trans rfl
theorem PR.c1 (h : PR B w b s N nv np S r v) : w.cell? ⟨b, 1, none⟩ = some (.int .i64 r.p) := (rowF_cell h.pr (by omega)).trans rfl
theorem PR.c2 (h : PR B w b s N nv np S r v) : w.cell? ⟨b, 2, none⟩ = some (.string s) := (rowF_cell h.pr (by omega)).trans rfl
theorem PR.c3 (h : PR B w b s N nv np S r v) : w.cell? ⟨b, 3, none⟩ = some (.int .i64 (N : Int)) := (rowF_cell h.pr (by omega)).trans rfl
theorem PR.c4 (h : PR B w b s N nv np S r v) : w.cell? ⟨b, 4, none⟩ = some (.int .i64 (nv : Int)) := (rowF_cell h.pr (by omega)).trans rfl
theorem PR.c5 (h : PR B w b s N nv np S r v) : w.cell? ⟨b, 5, none⟩ = some (.int .i64 (np : Int)) := (rowF_cell h.pr (by omega)).trans rfl
theorem PR.c911 (h : PR B w b s N nv np S r v) : w.cell? ⟨b, 911, none⟩ = some v := (rowF_cell h.pr (by omega)).trans rfl
theorem PR.cS (h : PR B w b s N nv np S r v) {k : Nat} (hk : k < 5) : w.cell? ⟨b, 6 + k, none⟩ = some (.int .i64 (S k)) := by
  rw [rowF_cell h.pr (by omega)]
  unfold prgF
  rw [if_neg (by omega), if_neg (by omega), if_neg (by omega), if_neg (by omega), if_neg (by omega), if_neg (by omega), if_pos (by omega), show 6 + k - 6 = k by omega]
theorem PR.cT (h : PR B w b s N nv np S r v) {i k : Nat} (hi : i < 300) (hk : k < 3) : w.cell? ⟨b, 11 + i * 3 + k, none⟩ = some (.int .i64 (r.T i k)) := by
  rw [rowF_cell h.pr (by omega)]
  unfold prgF
  rw [if_neg (by omega), if_neg (by omega), if_neg (by omega), if_neg (by omega), if_neg (by omega), if_neg (by omega), if_neg (by omega), if_pos (by omega), show (11 + i * 3 + k - 11) / 3 = i by omega, show (11 + i * 3 + k - 11) % 3 = k by omega]
theorem PR.fz (h : PR B w b s N nv np S r v) (j : Nat) : w.frozen? ⟨b, j, none⟩ = false := frozen_of_row w b j _ _ h.pr
theorem PR.lt (h : PR B w b s N nv np S r v) : b < w.heap.size := (Array.getElem?_eq_some_iff.1 h.pr).1
theorem PR.ne (h : PR B w b s N nv np S r v) : v.ownBlock ≠ some b := by
  intro e
  rcases h.own.2 with ⟨rfl, _⟩ | ⟨g, cap, cur, rfl, _, hg, _⟩
  · simp [Value.ownBlock] at e
  · simp only [Value.ownBlock, Option.some.injEq] at e
    have h2 := h.pr
    rw [e, h2] at hg
    simp at hg
theorem PR.drewN (h : PR B w b s N nv np S r v) (q : Nat) : PR B (w.drewN q) b s N nv np S r v := ⟨h.pr, h.own⟩
theorem PR.drew (h : PR B w b s N nv np S r v) : PR B w.drew b s N nv np S r v := ⟨h.pr, h.own⟩
/-- What a reader leaves. -/
def PSt (B : Nat) (w : World) (b : Nat) (s : ByteArray) (N nv np : Nat) (S : Nat → Int) (v : Value) (r : RdS) (w' : World) : Prop :=
  ∃ v', PR B w' b s N nv np S r v' ∧ Kp b v.ownBlock w w' ∧ NewOr w v v'
theorem PSt.step (h2 : Kp b v.ownBlock w w') (h3 : NewOr w v v') (k : PSt B w' b s N nv np S v' r w'') : PSt B w b s N nv np S v r w'' := by
  obtain ⟨v2, k1, k2, k3⟩ := k
  refine ⟨v2, k1, h2.trans k2 h3, ?_⟩
  rcases k3 with e | e
  · rcases h3 with e' | e'
    · exact Or.inl (e.trans e')
    · exact Or.inr (fun k hk => e' k (e ▸ hk))
  · exact Or.inr (fun k hk => Nat.le_trans h2.size (e k hk))
/-- A row turned: all but the calls. -/
theorem PR.turn {nv' np' : Nat} {S' : Nat → Int} (h : PR B w b s N nv np S r v) {cs : Array Value} (hc : cs = prgC r'.e r'.p s N nv' np' S' r'.T v) (hC : r'.C = r.C) (q : Nat) :
    PR B ((w.setRow b cs).drewN q) b s N nv' np' S' r' v ∧ Kp b v.ownBlock w ((w.setRow b cs).drewN q) := by
  subst hc
  refine ⟨⟨setRow_heap w b _ _ _ _ h.pr, ?_⟩, Kp.setRow w b _ _ q⟩
  have hg : w.grownBy ((w.setRow b (prgC r'.e r'.p s N nv' np' S' r'.T v)).drewN q) (some b) := ⟨rfl, rfl, rfl, by simp, fun k _ hk => setRow_other w b k _ (fun e => hk (by rw [e]))⟩
  rw [hC]
  exact h.own.kept hg (Or.inr h.ne)
theorem PR.set (h : PR B w b s N nv np S r v) (j : Nat) (x : Value) : w.setCell ⟨b, j, none⟩ x = w.setRow b ((prgC r.e r.p s N nv np S r.T v).setIfInBounds j x) := setCell_eq_setRow w b _ _ _ _ _ h.pr
theorem prg_set0 {e p e' N nv np : Int} {S : Nat → Int} {T : Nat → Nat → Int} {cv : Value} : (prgC e p s N nv np S T cv).setIfInBounds 0 (.int .i64 e') = prgC e' p s N nv np S T cv := by
  refine rowF_set rfl (fun k hk hne => ?_)
  unfold prgF; rw [if_neg hne, if_neg hne]
theorem prg_set1 {e p p' N nv np : Int} {S : Nat → Int} {T : Nat → Nat → Int} {cv : Value} : (prgC e p s N nv np S T cv).setIfInBounds 1 (.int .i64 p') = prgC e p' s N nv np S T cv := by
  refine rowF_set rfl (fun k hk hne => ?_)
  unfold prgF; rw [if_neg hne, if_neg hne]
theorem prg_set4 {e p N nv np nv' : Int} {S : Nat → Int} {T : Nat → Nat → Int} {cv : Value} : (prgC e p s N nv np S T cv).setIfInBounds 4 (.int .i64 nv') = prgC e p s N nv' np S T cv := by
  refine rowF_set rfl (fun k hk hne => ?_)
  unfold prgF; rw [if_neg hne, if_neg hne]
theorem prg_set5 {e p N nv np np' : Int} {S : Nat → Int} {T : Nat → Nat → Int} {cv : Value} : (prgC e p s N nv np S T cv).setIfInBounds 5 (.int .i64 np') = prgC e p s N nv np' S T cv := by
  refine rowF_set rfl (fun k hk hne => ?_)
  unfold prgF; rw [if_neg hne, if_neg hne]
def setS (S : Nat → Int) (k : Nat) (x : Int) : Nat → Int := fun j => if j = k then x else S j
theorem prg_setS {e p N nv np x : Int} {S : Nat → Int} {T : Nat → Nat → Int} {cv : Value} {k : Nat} (hk : k < 5) : (prgC e p s N nv np S T cv).setIfInBounds (6 + k) (.int .i64 x) = prgC e p s N nv np (setS S k x) T cv := by
  refine rowF_set ?_ (fun j hj hne => ?_)
  · unfold prgF
    rw [if_neg (by omega), if_neg (by omega), if_neg (by omega), if_neg (by omega), if_neg (by omega), if_neg (by omega), if_pos (by omega), show 6 + k - 6 = k by omega]
    unfold setS; rw [if_pos rfl]
  · unfold prgF
    by_cases h1 : j < 11 ∧ 6 ≤ j
    · have a1 : ¬ j = 0 := by omega
      have a2 : ¬ j = 1 := by omega
      have a3 : ¬ j = 2 := by omega
      have a4 : ¬ j = 3 := by omega
      have a5 : ¬ j = 4 := by omega
      have a6 : ¬ j = 5 := by omega
      simp only [a1, a2, a3, a4, a5, a6, h1.1, if_false, if_true]
      unfold setS; rw [if_neg (by omega)]
    · repeat' split
      all_goals first | rfl | (exfalso; omega)
theorem prg_setT {e p N nv np x : Int} {S : Nat → Int} {T : Nat → Nat → Int} {cv : Value} {i k : Nat} (hi : i < 300) (hk : k < 3) : (prgC e p s N nv np S T cv).setIfInBounds (11 + i * 3 + k) (.int .i64 x) = prgC e p s N nv np S (setT T i k x) cv := by
  refine rowF_set ?_ (fun j hj hne => ?_)
  · unfold prgF
    rw [if_neg (by omega), if_neg (by omega), if_neg (by omega), if_neg (by omega), if_neg (by omega), if_neg (by omega), if_neg (by omega), if_pos (by omega), show (11 + i * 3 + k - 11) / 3 = i by omega, show (11 + i * 3 + k - 11) % 3 = k by omega]
    unfold setT; rw [if_pos ⟨rfl, rfl⟩]
  · unfold prgF
    by_cases h1 : j < 911 ∧ 11 ≤ j
    · have a1 : ¬ j = 0 := by omega
      have a2 : ¬ j = 1 := by omega
      have a3 : ¬ j = 2 := by omega
      have a4 : ¬ j = 3 := by omega
      have a5 : ¬ j = 4 := by omega
      have a6 : ¬ j = 5 := by omega
      have a7 : ¬ j < 11 := by omega
      simp only [a1, a2, a3, a4, a5, a6, a7, h1.1, if_false, if_true]
      unfold setT; rw [if_neg (by omega)]
    · repeat' split
      all_goals first | rfl | (exfalso; omega)
theorem prg_set911 {e p N nv np : Int} {S : Nat → Int} {T : Nat → Nat → Int} {cv cv' : Value} : (prgC e p s N nv np S T cv).setIfInBounds 911 cv' = prgC e p s N nv np S T cv' := by
  refine rowF_set rfl (fun k hk hne => ?_)
  unfold prgF
  repeat' split
  all_goals first | rfl | omega
/-- A cell of the table. -/
theorem PR.putT (h : PR B w b s N nv np S r v) {i k : Nat} (hi : i < 300) (hk : k < 3) (x : Int) (q : Nat) : PR B ((w.setCell ⟨b, 11 + i * 3 + k, none⟩ (.int .i64 x)).drewN q) b s N nv np S { r with T := setT r.T i k x } v ∧ Kp b v.ownBlock w ((w.setCell ⟨b, 11 + i * 3 + k, none⟩ (.int .i64 x)).drewN q) := by
  rw [h.set, prg_setT hi hk]
  exact h.turn (r' := { r with T := setT r.T i k x }) rfl rfl q
theorem PR.put4 (h : PR B w b s N nv np S r v) (x : Nat) : PR B (w.setCell ⟨b, 4, none⟩ (.int .i64 (x : Int))) b s N x np S r v ∧ Kp b v.ownBlock w (w.setCell ⟨b, 4, none⟩ (.int .i64 (x : Int))) := by
  rw [h.set, prg_set4]
  exact h.turn (r' := r) rfl rfl 0
theorem PR.put5 (h : PR B w b s N nv np S r v) (x : Nat) : PR B (w.setCell ⟨b, 5, none⟩ (.int .i64 (x : Int))) b s N nv x S r v ∧ Kp b v.ownBlock w (w.setCell ⟨b, 5, none⟩ (.int .i64 (x : Int))) := by
  rw [h.set, prg_set5]
  exact h.turn (r' := r) rfl rfl 0
theorem PR.putS (h : PR B w b s N nv np S r v) {k : Nat} (hk : k < 5) (x : Int) (q : Nat) : PR B ((w.setCell ⟨b, 6 + k, none⟩ (.int .i64 x)).drewN q) b s N nv np (setS S k x) r v ∧ Kp b v.ownBlock w ((w.setCell ⟨b, 6 + k, none⟩ (.int .i64 x)).drewN q) := by
  rw [h.set, prg_setS hk]
  exact h.turn (r' := r) rfl rfl q
theorem PR.putE (h : PR B w b s N nv np S r v) (e p : Int) : PR B ((w.setCell ⟨b, 0, none⟩ (.int .i64 e)).setCell ⟨b, 1, none⟩ (.int .i64 p)) b s N nv np S { r with e := e, p := p } v ∧ Kp b v.ownBlock w ((w.setCell ⟨b, 0, none⟩ (.int .i64 e)).setCell ⟨b, 1, none⟩ (.int .i64 p)) := by
  rw [h.set, prg_set0, setCell_eq_setRow _ b _ _ _ _ _ (setRow_heap w b _ _ _ _ h.pr), setRow_setRow, prg_set1]
  exact h.turn (r' := { r with e := e, p := p }) rfl rfl 0

set_option maxHeartbeats 800000 in
set_option maxRecDepth 100000 in
theorem refuse_any (h : PR B w b s N nv np S r v) (pl : Nat) :
    Calls Tryz.prog 81 #[.pointer (some ⟨b, 0, none⟩), .int .i64 (pl : Int)] w fun e w' => e = .returned (.tuple #[]) ∧ PR B w' b s N nv np S (refR r pl) v ∧ Kp b v.ownBlock w w' := by
  have k0 := h.c0
  have k1 := h.c1
  have z0 := h.fz 0
  have z1 := h.fz 1
  by_cases he : r.e = 0
  · rw [he] at k0
    have HR := hide (show refR r pl = { r with e := 4, p := (pl : Int) } by unfold refR; rw [if_pos he])
    have HP := hide (h.putE 4 (pl : Int))
    clear he
    go_enter Tryz.func81, Tryz.ntmps81
    go_wp2_with fail
    go_end0
    exact ⟨rfl, by rw [unhide HR]; exact (unhide HP).1, (unhide HP).2⟩
  · have HR := hide (show refR r pl = r by unfold refR; rw [if_neg he])
    have he' : (r.e == 0) = false := by simpa using he
    clear he
    go_enter Tryz.func81, Tryz.ntmps81
    go_wp2_with fail
    go_end0
    exact ⟨rfl, by rw [unhide HR]; exact h, Kp.refl _ _ _⟩

end Go.Proofs.YtfcflnnleadpkaaGreat

namespace Go.Proofs.YtfcflnnleadpkaaGreat
open Go.RowKit

def noW : Nat → Nat := fun _ => 0
def noP : Nat → Nat → Int := fun _ _ => 0
def noV : Nat → Int := fun _ => 0
/-- The cells of a flow: any levels, any program. -/
def flwC (e p : Int) (L P : Nat → Value) (V X T : Nat → Nat) (ra : Bool) : Array Value := rowF (flwF e p L P V X T ra) 1063
def L0 : Nat → Value := latF 0 0 0 noT noJ 0
def P0 : Nat → Value := prgF 0 0 ByteArray.empty 0 0 0 noV noP (.slice none 0 0)
theorem info_flw : (Tryz.prog.info? 57).map (fun i => (i.zero, i.size)) = some (some (.agg (flwC 0 0 L0 P0 noW noW noW false)), 1063) := by kernel_rfl
theorem zero_flw : ∀ w, (zeroValue 57).run Tryz.prog w = .ok (.agg (flwC 0 0 L0 P0 noW noW noW false)) w := (zero_of_info info_flw).1
theorem size_flw : (Tryz.prog.info? 57).map (·.size) = some 1063 := (zero_of_info info_flw).2

theorem flwC_size (e p : Int) (L P : Nat → Value) (V X T : Nat → Nat) (ra : Bool) : (flwC e p L P V X T ra).size = 1063 := rowF_size _ _
theorem flwC_g {e p : Int} {L P : Nat → Value} {V X T : Nat → Nat} {ra : Bool} (k : Nat) (hk : k < 1063) : (flwC e p L P V X T ra)[k]? = some (flwF e p L P V X T ra k) := rowF_get _ _ _ hk
theorem flw_set0 {e p e' : Int} {L P : Nat → Value} {V X T : Nat → Nat} {ra : Bool} : (flwC e p L P V X T ra).setIfInBounds 0 (.int .i64 e') = flwC e' p L P V X T ra := by
  refine rowF_set rfl (fun k hk hne => ?_)
  unfold flwF; rw [if_neg hne, if_neg hne]
theorem flw_set1 {e p p' : Int} {L P : Nat → Value} {V X T : Nat → Nat} {ra : Bool} : (flwC e p L P V X T ra).setIfInBounds 1 (.int .i64 p') = flwC e p' L P V X T ra := by
  refine rowF_set rfl (fun k hk hne => ?_)
  unfold flwF; rw [if_neg hne, if_neg hne]
theorem flwF_one {e p : Int} {L P : Nat → Value} {V X T : Nat → Nat} {ra : Bool} (hL : ∀ k, (L k).oneCell' = true) (hP : ∀ k, (P k).oneCell' = true) (k : Nat) : (flwF e p L P V X T ra k).oneCell' = true := by
  unfold flwF
  repeat' split
  all_goals first | rfl | exact hL _ | exact hP _
theorem flwC_all {e p : Int} {L P : Nat → Value} {V X T : Nat → Nat} {ra : Bool} (hL : ∀ k, (L k).oneCell' = true) (hP : ∀ k, (P k).oneCell' = true) : (flwC e p L P V X T ra).all (·.oneCell') = true := rowF_all (flwF_one hL hP)

/-- A row laid over a row. -/
theorem fold_get (o : Nat) : ∀ (xs : List Value) (i : Nat) (C : Array Value) (k : Nat), o + i + xs.length ≤ C.size →
    ((xs.zipIdx i).foldl (fun cs x => cs.setIfInBounds (o + x.2) x.1) C)[k]? = if o + i ≤ k ∧ k < o + i + xs.length then xs[k - (o + i)]? else C[k]? := by
  intro xs
  induction xs with
  | nil => intro i C k _; simp; omega
  | cons x xs ih =>
    intro i C k h
    simp only [List.length_cons] at h
    simp only [List.zipIdx_cons, List.foldl_cons]
    rw [ih (i + 1) _ k (by simp; omega), Array.getElem?_setIfInBounds]
    simp only [List.length_cons]
    by_cases h1 : k = o + i
    · rw [if_neg (by omega), if_pos h1.symm, if_pos (by omega), if_pos (by omega), h1, Nat.sub_self]; rfl
    · by_cases h2 : o + i ≤ k ∧ k < o + i + (xs.length + 1)
      · rw [if_pos (by omega), if_pos h2, show k - (o + i) = (k - (o + (i + 1))) + 1 by omega]; rfl
      · rw [if_neg (by omega), if_neg (by omega), if_neg h2]
theorem fold_row (F G H : Nat → Value) (o m M : Nat) (hM : o + m ≤ M) (h1 : ∀ k, k < m → H (o + k) = F k) (h2 : ∀ k, k < M → (k < o ∨ o + m ≤ k) → H k = G k) :
    Array.foldl (fun cs (x : Value × Nat) => cs.setIfInBounds (o + x.2) x.1) (rowF G M) (rowF F m).zipIdx 0 m = rowF H M := by
  have hs : (rowF F m).zipIdx.size = m := by simp [rowF]
  have e1 : Array.foldl (fun cs (x : Value × Nat) => cs.setIfInBounds (o + x.2) x.1) (rowF G M) (rowF F m).zipIdx 0 m = (rowF F m).zipIdx.toList.foldl (fun cs x => cs.setIfInBounds (o + x.2) x.1) (rowF G M) := by
    rw [Array.foldl_toList, hs]
  rw [e1]
  have e2 : (rowF F m).zipIdx.toList = ((List.range m).map F).zipIdx 0 := by simp [rowF]
  rw [e2]
  apply Array.ext_getElem?
  intro k
  rw [fold_get o _ 0 _ k (by rw [rowF_size]; simp; omega)]
  simp only [List.length_map, List.length_range, Nat.add_zero]
  by_cases hk : k < M
  · rw [rowF_get H M k hk]
    by_cases hr : o ≤ k ∧ k < o + m
    · rw [if_pos hr]
      have h9 : k - o < m := by omega
      have h8 := h1 (k - o) h9
      rw [show o + (k - o) = k by omega] at h8
      rw [h8]
      simp [h9]
    · rw [if_neg hr, rowF_get G M k hk, h2 k hk (by omega)]
  · have e3 : (rowF H M)[k]? = none := by rw [Array.getElem?_eq_none]; rw [rowF_size]; omega
    have e4 : (rowF G M)[k]? = none := by rw [Array.getElem?_eq_none]; rw [rowF_size]; omega
    rw [e3, if_neg (by omega), e4]

/-- What 'readLevels' answers, by index. -/
def levF (o : ByteArray) (a p : Int) (n : Nat) : Nat → Value := if a = 0 then latF 0 0 n (cl o n) (jTo n (cl o n) n 0) (fbK (cl o n) (n - 1) : Nat) else latF a p n noT noJ 0
theorem levA_row (o : ByteArray) (a p : Int) (n : Nat) : levA o a p n = rowF (levF o a p n) 132 := by
  unfold levA levF
  split <;> rfl
theorem levF_one (o : ByteArray) (a p : Int) (n : Nat) (k : Nat) : (levF o a p n k).oneCell' = true := by
  unfold levF; split <;> exact latF_one _ _ _ _ _ _ _
theorem levF_c (o : ByteArray) {a p : Int} (n : Nat) (h : a = 0 → p = 0) : levF o a p n 0 = .int .i64 a ∧ levF o a p n 1 = .int .i64 p ∧ levF o a p n 2 = .int .i64 (n : Int) := by
  unfold levF
  by_cases ha : a = 0
  · rw [if_pos ha, ha, h ha]; exact ⟨rfl, rfl, rfl⟩
  · rw [if_neg ha]; exact ⟨rfl, rfl, rfl⟩
theorem flw_lay (o : ByteArray) (a p : Int) (n : Nat) : Array.foldl (fun cs (x : Value × Nat) => cs.setIfInBounds (2 + x.2) x.1) (flwC 0 0 L0 P0 noW noW noW false) (levA o a p n).zipIdx 0 132 = flwC 0 0 (levF o a p n) P0 noW noW noW false := by
  rw [levA_row]
  refine fold_row _ _ _ 2 132 1063 (by omega) (fun k hk => ?_) (fun k hk h => ?_)
  · unfold flwF; rw [if_neg (by omega), if_neg (by omega), if_pos (by omega), show 2 + k - 2 = k by omega]
  · unfold flwF
    repeat' split
    all_goals first | rfl | omega

theorem ret_flw {fn : Func} {k : Tmp} (h : fn.results = #[.cell k 57]) (tmps : Array Value) (w : World) (g : Nat) (C : Array Value) (hC : C.size = 1063)
    (hp : tmps.getD k undef = .pointer (some ⟨g, 0, none⟩)) (hg : w.heap[g]? = some (.cells C 57 (0, 0))) :
    (results fn tmps).run Tryz.prog w = .ok (.agg C) w :=
  results_cell_row h tmps w g _ _ _ _ hp hg Tryz.underlying57 rfl (by rw [hC]; exact size_flw)
theorem flw_ge {e p : Int} {L P : Nat → Value} {V X T : Nat → Nat} {ra : Bool} (k : Nat) (x : Value) (hx : flwF e p L P V X T ra k = x) (h : k < (flwC e p L P V X T ra).size) : (flwC e p L P V X T ra)[k] = x := (rowF_getE _ _ _ h).trans hx

set_option maxHeartbeats 4000000 in
set_option maxRecDepth 200000 in
theorem rf_order (w : World) (o s : ByteArray) (hbad : ∀ a p n, ReadPost o a p n → a ≠ 0) :
    Calls Tryz.prog 11 #[.string o, .string s] w fun e w' => (∃ a p n, ReadPost o a p n ∧ e = .returned (.agg (flwC a p (levF o a p n) P0 noW noW noW false))) ∧ Below w.heap.size w w' := by
  have hz := zero_flw
  have z0 := flwC_size 0 0 L0 P0 noW noW noW false
  go_enter Tryz.func11, Tryz.ntmps11
  go_wp2_with fail
  refine (readLevels_any _ _).mono ?_
  rintro e w1 ⟨⟨a, p, n, hr, hn, rfl⟩, hb⟩
  have HR := hide hr
  have ha := hbad a p n hr
  have hl := levF_c o n (ReadPost_p0 hr)
  have z1 := levA_size o a p n
  have z2 := flwC_size 0 0 (levF o a p n) P0 noW noW noW false
  have z3 := flwC_size a 0 (levF o a p n) P0 noW noW noW false
  have z4 := flwC_size a p (levF o a p n) P0 noW noW noW false
  have hfo := flw_lay o a p n
  have c2 := flw_ge (e := 0) (p := 0) (L := levF o a p n) (P := P0) (V := noW) (X := noW) (T := noW) (ra := false) 2 (.int .i64 a) hl.1
  have c3 := flw_ge (e := 0) (p := 0) (L := levF o a p n) (P := P0) (V := noW) (X := noW) (T := noW) (ra := false) 3 (.int .i64 p) hl.2.1
  have s0 := flw_set0 (e := 0) (p := 0) (e' := a) (L := levF o a p n) (P := P0) (V := noW) (X := noW) (T := noW) (ra := false)
  have s1 := flw_set1 (e := a) (p := 0) (p' := p) (L := levF o a p n) (P := P0) (V := noW) (X := noW) (T := noW) (ra := false)
  have c0 := flw_ge (e := a) (p := p) (L := levF o a p n) (P := P0) (V := noW) (X := noW) (T := noW) (ra := false) 0 (.int .i64 a) rfl
  have hst := store_arr size_flw (w1.alloc (.cells (flwC 0 0 L0 P0 noW noW noW false) 57)) w1.heap.size _ (flwC 0 0 (levF o a p n) P0 noW noW noW false) (flwC_size _ _ _ _ _ _ _ _) (flwC_size _ _ _ _ _ _ _ _) (flwC_all (levF_one _ _ _ _) (prgF_one rfl)) (heap_alloc_last w1 _)
  rw [World.setRow_alloc_new] at hst
  have ha' : (a != 0) = true := by simpa using ha
  have hsz : w.heap.size < w1.heap.size := by have := hb.size; simp at this; omega
  have g0 : (w1.alloc (.cells (flwC a p (levF o a p n) P0 noW noW noW false) 57)).heap[w.heap.size]? = some (.cells (flwC 0 0 L0 P0 noW noW noW false) 57) :=
    (heap_alloc_old _ _ hsz).trans ((hb.block _ (by simp)).trans (heap_alloc_last w _))
  have hst2 := store_arr size_flw _ w.heap.size _ (flwC a p (levF o a p n) P0 noW noW noW false) (flwC_size _ _ _ _ _ _ _ _) (flwC_size _ _ _ _ _ _ _ _) (flwC_all (levF_one _ _ _ _) (prgF_one rfl)) g0
  have HG := hide g0
  have HG1 := hide (heap_alloc_last w1 (.cells (flwC a p (levF o a p n) P0 noW noW noW false) 57))
  have HB := hide (show Below w.heap.size w (w1.alloc (.cells (flwC a p (levF o a p n) P0 noW noW noW false) 57)) from (((Below.refl _ _).alloc (Nat.le_refl _) _).trans (hb.mono (by simp))).trans ((Below.refl _ _).alloc (by omega) _))
  clear hr ha hl g0 hb
  go_wp2_with (refine wpList_load_row rfl 57 _ rfl w1.heap.size rfl 57 _ (0, 0) _ (unhide HG1) Tryz.underlying57 rfl (by rw [flwC_size]; exact size_flw) ?_)
  refine bodyPost_ret (v := .agg (flwC a p (levF o a p n) P0 noW noW noW false)) (ret_flw Tryz.results11 _ _ w.heap.size _ (flwC_size _ _ _ _ _ _ _ _) rfl (setRow_heap _ _ _ _ _ _ (unhide HG))) rfl ⟨⟨a, p, n, unhide HR, rfl⟩, ?_⟩
  exact below_setRow (unhide HB) (Nat.le_refl _) _

end Go.Proofs.YtfcflnnleadpkaaGreat

namespace Go.Proofs.YtfcflnnleadpkaaGreat
open Go.RowKit

def rnB (F : Nat → Value) (iv : Value) (fu : Nat) (ov : Value) : Array Value := rowF (rnF F iv noW noW fu 0 ov) 932
theorem rnB_size (F : Nat → Value) (iv : Value) (fu : Nat) (ov : Value) : (rnB F iv fu ov).size = 932 := rowF_size _ _
theorem info_rn : (Tryz.prog.info? 60).map (fun i => (i.zero, i.size)) = some (some (.agg (rnB P0 (.slice none 0 0) 0 (.slice none 0 0))), 932) := by kernel_rfl
theorem zero_rn : ∀ w, (zeroValue 60).run Tryz.prog w = .ok (.agg (rnB P0 (.slice none 0 0) 0 (.slice none 0 0))) w := (zero_of_info info_rn).1
theorem size_rn : (Tryz.prog.info? 60).map (·.size) = some 932 := (zero_of_info info_rn).2
theorem size_pg : (Tryz.prog.info? 52).map (·.size) = some 912 := by kernel_rfl
theorem rnB_lay (F : Nat → Value) (iv : Value) (fu : Nat) (ov : Value) : Array.foldl (fun cs (x : Value × Nat) => cs.setIfInBounds (0 + x.2) x.1) (rnB P0 iv fu ov) (rowF F 912).zipIdx 0 912 = rnB F iv fu ov := by
  refine fold_row _ _ _ 0 912 932 (by omega) (fun k hk => ?_) (fun k hk h => ?_)
  · rw [Nat.zero_add]; exact rnF_pg hk
  · unfold rnF
    repeat' split
    all_goals first | rfl | omega
theorem rnB_lay' (F : Nat → Value) (iv : Value) (fu : Nat) (ov : Value) : Array.foldl (fun cs (x : Value × Nat) => cs.setIfInBounds x.2 x.1) (rnB P0 iv fu ov) (rowF F 912).zipIdx 0 912 = rnB F iv fu ov := by
  have h := rnB_lay F iv fu ov
  simp only [Nat.zero_add] at h
  exact h
theorem rnB_in (F : Nat → Value) (iv iv' : Value) (fu : Nat) (ov : Value) : (rnB F iv fu ov).setIfInBounds 912 iv' = rnB F iv' fu ov := by
  refine rowF_set rfl (fun k hk hne => ?_)
  unfold rnF
  repeat' split
  all_goals first | rfl | omega
theorem rnB_fu (F : Nat → Value) (iv : Value) (fu fu' : Nat) (ov : Value) : (rnB F iv fu ov).setIfInBounds 929 (.int .i64 (fu' : Int)) = rnB F iv fu' ov := by
  refine rowF_set rfl (fun k hk hne => ?_)
  unfold rnF
  repeat' split
  all_goals first | rfl | omega
theorem rnB_ov (F : Nat → Value) (iv : Value) (fu : Nat) (ov ov' : Value) : (rnB F iv fu ov).setIfInBounds 931 ov' = rnB F iv fu ov' := by
  refine rowF_set rfl (fun k hk hne => ?_)
  unfold rnF
  repeat' split
  all_goals first | rfl | omega
theorem rnB_one {F : Nat → Value} {iv : Value} {fu : Nat} {ov : Value} (hF : ∀ k, (F k).oneCell' = true) (h1 : iv.oneCell' = true) (h2 : ov.oneCell' = true) : (rnB F iv fu ov).all (·.oneCell') = true := by
  refine rowF_all (fun k => ?_)
  unfold rnF
  repeat' split
  all_goals first | rfl | exact hF _ | exact h1 | exact h2
theorem ret_rn {fn : Func} {k : Tmp} (h : fn.results = #[.cell k 60]) (tmps : Array Value) (w : World) (g : Nat) (C : Array Value) (hC : C.size = 932)
    (hp : tmps.getD k undef = .pointer (some ⟨g, 0, none⟩)) (hg : w.heap[g]? = some (.cells C 60 (0, 0))) :
    (results fn tmps).run Tryz.prog w = .ok (.agg C) w :=
  results_cell_row h tmps w g _ _ _ _ hp hg Tryz.underlying60 rfl (by rw [hC]; exact size_rn)

set_option maxHeartbeats 600000 in
set_option maxRecDepth 200000 in
theorem pBegin_gen (w : World) (R Z0 A1 A2 A3 A4 : Array Value) (ia : Option Addr) (il ic fu : Nat) (hz : ∀ w, (zeroValue 60).run Tryz.prog w = .ok (.agg Z0) w)
    (z1 : R.size = 912) (z0 : Z0.size = 932) (z2 : A1.size = 932) (z5 : A4.size = 932) (h1 : A4.all (·.oneCell') = true)
    (hl' : Array.foldl (fun cs (x : Value × Nat) => cs.setIfInBounds x.2 x.1) Z0 R.zipIdx 0 912 = A1)
    (h2 : A1.setIfInBounds 912 (.slice ia il ic) = A2) (h3 : A2.setIfInBounds 929 (.int .i64 (fu : Int)) = A3) (h4 : A3.setIfInBounds 931 (.slice (some ⟨w.heap.size + 1 + 1, 0, none⟩) 0 0) = A4) :
    Calls Tryz.prog 12 #[.agg R, .slice ia il ic, .int .i64 (fu : Int)] w fun e w' => e = .returned (.agg A4) ∧ w'.heap[w.heap.size + 1 + 1]? = some (.cells #[] 85 (0, 0)) ∧ Below w.heap.size w w' := by
  have HG := hide ((heap_two w (.cells R 52) (.cells Z0 60)).1)
  have g3 := heap_three w (.cells R 52) (.cells Z0 60) (.cells #[] 85)
  have HG3 := hide g3
  have hst := store_arr size_rn _ (w.heap.size + 1) _ A4 z0 z5 h1 g3.2.1
  have HZ := hide z5
  clear g3
  go_enter Tryz.func12, Tryz.ntmps12
  go_wp2_with (refine wpList_load_row rfl 52 _ rfl w.heap.size rfl 52 _ (0, 0) _ (unhide HG) Tryz.underlying52 rfl (by rw [z1]; exact size_pg) ?_)
  refine bodyPost_ret (v := .agg A4) (ret_rn Tryz.results12 _ _ (w.heap.size + 1) _ (unhide HZ) rfl (setRow_heap _ _ _ _ _ _ (unhide HG3).2.1)) rfl ⟨rfl, ?_, ?_⟩
  · exact (setRow_other _ _ _ _ (by omega)).trans (unhide HG3).2.2
  · exact below_setRow (below_three w _ _ _) (by omega) _

theorem pBegin (w : World) (F : Nat → Value) (hF : ∀ k, (F k).oneCell' = true) (ia : Option Addr) (il ic fu : Nat) :
    Calls Tryz.prog 12 #[.agg (rowF F 912), .slice ia il ic, .int .i64 (fu : Int)] w fun e w' => ∃ g, e = .returned (.agg (rnB F (.slice ia il ic) fu (.slice (some ⟨g, 0, none⟩) 0 0))) ∧ w.heap.size ≤ g ∧ w'.heap[g]? = some (.cells #[] 85 (0, 0)) ∧ Below w.heap.size w w' := by
  refine (pBegin_gen w (rowF F 912) _ _ _ _ _ ia il ic fu zero_rn (rowF_size _ _) (rnB_size _ _ _ _) (rnB_size F (.slice none 0 0) 0 (.slice none 0 0)) (rnB_size F (.slice ia il ic) fu (.slice (some ⟨w.heap.size + 1 + 1, 0, none⟩) 0 0)) (rnB_one hF rfl rfl)
    (rnB_lay' F _ _ _) (rnB_in F _ _ _ _) (rnB_fu F _ _ _ _) (rnB_ov F _ _ _ _)).mono ?_
  rintro e w' ⟨rfl, hg, hb⟩
  exact ⟨_, rfl, by omega, hg, hb⟩

end Go.Proofs.YtfcflnnleadpkaaGreat

namespace Go.Proofs.YtfcflnnleadpkaaGreat
open Go.RowKit
variable {B : Nat} {w w' w'' : World} {b : Nat} {s : ByteArray} {N nv np : Nat} {S : Nat → Int} {r r' : RdS} {v v' : Value}

/-- A mark at a place. -/
def mkR (s : ByteArray) (m : Int) (a : Nat) (r : RdS) : RdS := if a < s.size ∧ bt s a = m then r else refR r a
set_option maxHeartbeats 800000 in
set_option maxRecDepth 100000 in
theorem mark_any (h : PR B w b s N nv np S r v) (m : Int) {x : Int} {a : Nat} (hx : x = (a : Int)) (ha : a ≤ 400) :
    Calls Tryz.prog 79 #[.pointer (some ⟨b, 0, none⟩), .int .u8 m, .int .i64 x] w fun e w' => e = .returned (.int .i64 ((a : Int) + 1)) ∧ PR B w' b s N nv np S (mkR s m a r) v ∧ Kp b v.ownBlock w w' := by
  subst hx
  have k2 := h.c2
  by_cases hi : a < s.size
  · have hbq := bt_eq s a hi
    have hi' : (a : Int) < (s.size : Int) := by omega
    have hge : decide ((s.size : Int) ≤ (a : Int)) = false := by simp; omega
    by_cases hm : bt s a = m
    · have HM := hide (show mkR s m a r = r by unfold mkR; rw [if_pos ⟨hi, hm⟩])
      have hm' : (bt s a != m) = false := by simpa using hm
      clear hm
      go_enter Tryz.func79, Tryz.ntmps79
      go_wp2_with fail
      go_ret
      exact ⟨by go_num, by rw [unhide HM]; exact h, Kp.refl _ _ _⟩
    · have HM := hide (show mkR s m a r = refR r a by unfold mkR; rw [if_neg (fun x => hm x.2)])
      have hm' : (bt s a != m) = true := by simpa using hm
      clear hm
      go_enter Tryz.func79, Tryz.ntmps79
      go_wp2_with fail
      refine (refuse_any h a).mono ?_
      rintro e w2 ⟨rfl, hp2, hk2⟩
      have HP2 := hide hp2
      have HK2 := hide hk2
      clear hp2 hk2
      go_wp2_with fail
      go_ret
      exact ⟨by go_num, by rw [unhide HM]; exact unhide HP2, unhide HK2⟩
  · have HM := hide (show mkR s m a r = refR r a by unfold mkR; rw [if_neg (fun x => hi x.1)])
    have hge : decide ((s.size : Int) ≤ (a : Int)) = true := by simp; omega
    go_enter Tryz.func79, Tryz.ntmps79
    go_wp2_with fail
    refine (refuse_any h a).mono ?_
    rintro e w2 ⟨rfl, hp2, hk2⟩
    have HP2 := hide hp2
    have HK2 := hide hk2
    clear hp2 hk2
    go_wp2_with fail
    go_ret
    exact ⟨by go_num, by rw [unhide HM]; exact unhide HP2, unhide HK2⟩

/-- The reader of parts, with fuel f. -/
def RdOk (B b : Nat) (s : ByteArray) (N nv np : Nat) (S : Nat → Int) (f : Nat) : Prop := ∀ (w : World) (r : RdS) (v : Value) (k : Int) (a : Nat), PR B w b s N nv np S r v → Knd k → B ≤ w.heap.size → a ≤ s.size → s.size < a + f → r.C.length ≤ a →
    Calls Tryz.prog 80 #[.pointer (some ⟨b, 0, none⟩), .int .u8 k, .int .i64 (a : Int)] w fun e w' => e = .returned (.int .i64 ((rdP (bt s) s.size nv N f k a r).1 : Nat)) ∧ PSt B w b s N nv np S v (rdP (bt s) s.size nv N f k a r).2 w'

set_option maxHeartbeats 800000 in
set_option maxRecDepth 100000 in
theorem part_flt (h : PR B w b s N nv np S r v) (k x : Int) (he : r.e ≠ 0) :
    Calls Tryz.prog 80 #[.pointer (some ⟨b, 0, none⟩), .int .u8 k, .int .i64 x] w fun e w' => e = .returned (.int .i64 x) ∧ w' = w := by
  have k0 := h.c0
  have he' : (r.e != 0) = true := by simpa using he
  clear he
  go_enter Tryz.func80, Tryz.ntmps80
  go_wp2_with fail
  go_ret
  exact ⟨rfl, rfl⟩

set_option maxHeartbeats 800000 in
set_option maxRecDepth 100000 in
theorem part_end (h : PR B w b s N nv np S r v) (k : Int) {a : Nat} (he : r.e = 0) (ha : ¬ a < s.size) :
    Calls Tryz.prog 80 #[.pointer (some ⟨b, 0, none⟩), .int .u8 k, .int .i64 (a : Int)] w fun e w' => e = .returned (.int .i64 (a : Int)) ∧ PR B w' b s N nv np S (refR r a) v ∧ Kp b v.ownBlock w w' := by
  have k0 := h.c0
  have k2 := h.c2
  rw [he] at k0
  clear he
  have hge : decide ((s.size : Int) ≤ (a : Int)) = true := by simp; omega
  go_enter Tryz.func80, Tryz.ntmps80
  go_wp2_with fail
  refine (refuse_any h a).mono ?_
  rintro e w2 ⟨rfl, hp2, hk2⟩
  have HP2 := hide hp2
  have HK2 := hide hk2
  clear hp2 hk2
  go_wp2_with fail
  go_ret
  exact ⟨rfl, unhide HP2, unhide HK2⟩

set_option maxHeartbeats 800000 in
set_option maxRecDepth 100000 in
theorem part_bad (h : PR B w b s N nv np S r v) {k : Int} (hk : Knd k) {a : Nat} (he : r.e = 0) (ha : a < s.size) (hn : ptI nv N k (bt s a) = none) :
    Calls Tryz.prog 80 #[.pointer (some ⟨b, 0, none⟩), .int .u8 k, .int .i64 (a : Int)] w fun e w' => e = .returned (.int .i64 (a : Int)) ∧ PR B w' b s N nv np S (refR r a) v ∧ Kp b v.ownBlock w w' := by
  have k0 := h.c0
  have k2 := h.c2
  rw [he] at k0
  clear he
  have hge : decide ((s.size : Int) ≤ (a : Int)) = false := by simp; omega
  have hbq := bt_eq s a ha
  have ⟨hb0, hb1⟩ := bt_bd s a
  have ha' : (a : Int) < (s.size : Int) := by omega
  have HN := hide (show tupI (ptI nv N k (bt s a)) = .tuple #[.string (bs []), .bool false] by rw [hn]; rfl)
  clear hn
  go_enter Tryz.func80, Tryz.ntmps80
  go_wp2_with fail
  refine (ptParts_any _ _ nv N _ _ hk h.c4 h.c3 hb0 hb1).mono ?_
  rintro e w1 ⟨rfl, q, rfl⟩
  rw [unhide HN]
  go_wp2_with fail
  refine (refuse_any (h.drewN q) a).mono ?_
  rintro e w2 ⟨rfl, hp2, hk2⟩
  have HP2 := hide hp2
  have HK2 := hide (show Kp b v.ownBlock w w2 from ⟨hk2.os, hk2.tape, hk2.output, hk2.size, hk2.block⟩)
  clear hp2 hk2
  go_wp2_with fail
  go_ret
  exact ⟨rfl, unhide HP2, unhide HK2⟩

end Go.Proofs.YtfcflnnleadpkaaGreat

namespace Go.Proofs.YtfcflnnleadpkaaGreat
open Go.RowKit
variable {B : Nat} {w w' w'' : World} {b : Nat} {s : ByteArray} {N nv np : Nat} {S : Nat → Int} {r r' : RdS} {v v' : Value}

theorem RdOk.at {f : Nat} (H : RdOk B b s N nv np S f) {k x : Int} {a : Nat} (hx : x = (a : Int)) (h : PR B w b s N nv np S r v) (hk : Knd k) (hB : B ≤ w.heap.size) (h1 : a ≤ s.size) (h2 : s.size < a + f) (h3 : r.C.length ≤ a) :
    Calls Tryz.prog 80 #[.pointer (some ⟨b, 0, none⟩), .int .u8 k, .int .i64 x] w fun e w' => e = .returned (.int .i64 ((rdP (bt s) s.size nv N f k a r).1 : Nat)) ∧ PSt B w b s N nv np S v (rdP (bt s) s.size nv N f k a r).2 w' := by
  subst hx; exact H w r v k a h hk hB h1 h2 h3

set_option maxHeartbeats 2000000 in
set_option maxRecDepth 100000 in
theorem part_go {f : Nat} (IH : RdOk B b s N nv np S f) (h : PR B w b s N nv np S r v) {k : Int} (hk : Knd k) (hk2 : k ≠ 112) {a : Nat} (hB : B ≤ w.heap.size) (hs : s.size ≤ 300) (he : r.e = 0) (ha : a < s.size) (hf : s.size < a + (f + 1)) (hC : r.C.length ≤ a) {inn : ByteArray} (hn : ptI nv N k (bt s a) = some inn) :
    Calls Tryz.prog 80 #[.pointer (some ⟨b, 0, none⟩), .int .u8 k, .int .i64 (a : Int)] w fun e w' => e = .returned (.int .i64 ((rdL (rdP (bt s) s.size nv N f) a inn inn.size 0 (a + 1) r).1 : Nat)) ∧ PSt B w b s N nv np S v (rdL (rdP (bt s) s.size nv N f) a inn inn.size 0 (a + 1) r).2 w' := by
  have k0 := h.c0
  have k2 := h.c2
  rw [he] at k0
  clear he
  obtain ⟨hi3, hkn⟩ := ptI_kinds hn
  have HKN := hide hkn
  clear hkn
  have hge : decide ((s.size : Int) ≤ (a : Int)) = false := by simp; omega
  have hbq := bt_eq s a ha
  have ⟨hb0, hb1⟩ := bt_bd s a
  have ha' : (a : Int) < (s.size : Int) := by omega
  have hk2' : (k == 112) = false := by simpa using hk2
  have HN := hide (show tupI (ptI nv N k (bt s a)) = .tuple #[.string inn, .bool true] by rw [hn]; rfl)
  have HIH := hide IH
  have HH := hide h
  clear hn hk2 IH
  go_enter Tryz.func80, Tryz.ntmps80
  go_wp2_with fail
  refine (ptParts_any _ _ nv N _ _ hk (unhide HH).c4 (unhide HH).c3 hb0 hb1).mono ?_
  rintro e w1 ⟨rfl, q, rfl⟩
  rw [unhide HN]
  clear hbq hb0 hb1
  go_wp2_with fail
  clear k0 k2
  go_loopw [9, 10] (fun d e wr => ∃ (m nx : Nat) (r' : RdS) (v' : Value), m ≤ inn.size ∧ e = .int .i64 (m : Int) ∧ d = .int .i64 (nx : Int) ∧ PR B wr b s N nv np S r' v' ∧ Kp b v.ownBlock w wr ∧ NewOr w v v' ∧ a + 1 ≤ nx ∧ nx ≤ s.size ∧ r'.C.length ≤ nx ∧
    rdL (rdP (bt s) s.size nv N f) a inn inn.size 0 (a + 1) r = rdL (rdP (bt s) s.size nv N f) a inn (inn.size - m) m nx r') (fun _ e _ => inn.size - (intOf e).toNat)
  case atStart => exact ⟨0, a + 1, r, v, Nat.zero_le _, rfl, by go_num, (unhide HH).drewN q, ⟨rfl, rfl, rfl, Nat.le_refl _, fun _ _ _ _ => rfl⟩, Or.inl rfl, Nat.le_refl _, ha, by omega, rfl⟩
  case round =>
    obtain ⟨m, nx, r1, v1, hm, rfl, rfl, hp, hkp, hno, hn1, hn2, hC1, hq⟩ := hrel
    have HQ := hide hq
    have HKP := hide hkp
    have HNO := hide hno
    have HP := hide hp
    clear hq hkp hno
    by_cases hlt : m < inn.size
    · have HS := hide (show rdL (rdP (bt s) s.size nv N f) a inn (inn.size - m) m nx r1 = rdL (rdP (bt s) s.size nv N f) a inn (inn.size - (m + 1)) (m + 1) (rdP (bt s) s.size nv N f (bt inn m) nx { r1 with T := setT r1.T a m nx }).1 (rdP (bt s) s.size nv N f (bt inn m) nx { r1 with T := setT r1.T a m nx }).2 by
        rw [show inn.size - m = (inn.size - (m + 1)) + 1 by omega]; rfl)
      have hpos := rdP_pos (c := bt s) (sz := s.size) (nv := nv) (N := N) f (bt inn m) nx { r1 with T := setT r1.T a m nx } hn2 hC1
      have HPOS := hide hpos
      clear hpos
      have hm3 : m < 3 := by omega
      have hm3' : (m : Int) < 3 := by omega
      have ha3 : (a : Int) < 300 := by omega
      have hlt' : (m : Int) < (inn.size : Int) := by omega
      have hiq := bt_eq inn m hlt
      have ⟨hq0, hq1⟩ := bt_bd inn m
      have hT := hp.cT (i := a) (k := m) (by omega) hm3
      have hz := hp.fz (11 + a * 3 + m)
      have HPT := hide (hp.putT (i := a) (k := m) (by omega) hm3 (nx : Int) 0)
      have hBr : B ≤ (wr.setCell ⟨b, 11 + a * 3 + m, none⟩ (.int .i64 (nx : Int))).heap.size := by rw [World.size_setCell]; have := (unhide HKP).size; omega
      clear hp
      go_wp2_with fail
      refine ((unhide HIH).at rfl (unhide HPT).1 (unhide HKN m hlt) hBr hn2 (by omega) hC1).mono ?_
      rintro e w2 ⟨rfl, v2, hp2, hk2, hno2⟩
      have HR := hide (show PSt B w b s N nv np S v (rdP (bt s) s.size nv N f (bt inn m) nx { r1 with T := setT r1.T a m nx }).2 w2 from PSt.step (unhide HKP) (unhide HNO) (PSt.step (unhide HPT).2 (Or.inl rfl) ⟨v2, hp2, hk2, hno2⟩))
      clear hp2 hk2 hno2 hT hz
      generalize rdP (bt s) s.size nv N f (bt inn m) nx { r1 with T := setT r1.T a m nx } = rr at *
      go_wp2_with fail
      go_roundw
      case rel =>
        obtain ⟨v3, p3, k3, n3⟩ := unhide HR
        obtain ⟨o1, o2, o3⟩ := unhide HPOS
        exact ⟨m + 1, rr.1, rr.2, v3, by omega, by go_num, rfl, p3, k3, n3, by omega, o2, o3, by rw [unhide HQ, unhide HS]⟩
      case measure => simp [intOf]; omega
    · have em : m = inn.size := by omega
      have HS := hide (show rdL (rdP (bt s) s.size nv N f) a inn (inn.size - m) m nx r1 = (nx, r1) by rw [em, Nat.sub_self]; rfl)
      clear hp em
      go_wp2_with fail
      go_ret
      exact ⟨by rw [unhide HQ, unhide HS]; rfl, by rw [unhide HQ, unhide HS]; exact ⟨v1, unhide HP, unhide HKP, unhide HNO⟩⟩

/-- One call more. -/
theorem PR.push {w1 : World} {gg cap i : Nat} (h : PR B w b s N nv np S r v)
    (hown1 : w1.ownsRow B 3 1 (.slice (some ⟨gg, 0, none⟩) (r.C.length + 1) cap) (r.C.length + 1) (cells r.C ++ [.int .i64 (i : Int)]))
    (hgrow : (w.alloc (.cells #[.int .i64 (i : Int)] 3)).drew.grownBy w1 v.ownBlock) (hat : v.ownBlock = some gg ∨ gg = w.heap.size + 1) :
    PSt B w b s N nv np S v { r with C := r.C ++ [i] } (w1.setCell ⟨b, 911, none⟩ (.slice (some ⟨gg, 0, none⟩) (r.C.length + 1) cap)) := by
  have hbl := h.lt
  have hsz : (w.alloc (.cells #[.int .i64 (i : Int)] 3)).drew.heap.size = w.heap.size + 1 := by simp
  have hb1 : ∀ k, k < w.heap.size → some k ≠ v.ownBlock → w1.heap[k]? = w.heap[k]? := fun k hk hne =>
    (hgrow.block k (by omega) hne).trans (Below.heap_alloc w _ k hk)
  have hs1 : w1.heap[b]? = some (.cells (prgC r.e r.p s N nv np S r.T v) 52 (0, 0)) := (hb1 b hbl (Ne.symm h.ne)).trans h.pr
  have hgb : gg ≠ b := by
    intro e
    rcases hown1.2 with ⟨e1, _⟩ | ⟨g, cp, cur, e1, _, hg, _⟩
    · simp at e1
    · simp at e1
      rw [← e1.1, e, hs1] at hg
      simp at hg
  rw [setCell_eq_setRow w1 b _ _ _ _ _ hs1, prg_set911]
  have hg2 : w1.grownBy (w1.setRow b (prgC r.e r.p s N nv np S r.T (.slice (some ⟨gg, 0, none⟩) (r.C.length + 1) cap))) (some b) := ⟨rfl, rfl, rfl, by simp, fun k _ hk => setRow_other w1 b k _ (fun e => hk (by rw [e]))⟩
  refine ⟨_, ⟨setRow_heap w1 b _ _ _ _ hs1, ?_⟩, ?_, ?_⟩
  · have h3 := hown1.kept hg2 (Or.inr (by simp [Value.ownBlock, hgb]))
    rw [cells_snoc] at h3
    simpa using h3
  · exact ⟨hgrow.os, hgrow.tape, hgrow.output, by have := hgrow.size; simp at this ⊢; omega, fun k hk h1 h2 => (setRow_other w1 b k _ h1).trans (hb1 k hk h2)⟩
  · rcases hat with e | e
    · exact Or.inl (by rw [e]; rfl)
    · exact Or.inr (fun k hk => by simp [Value.ownBlock] at hk; omega)

set_option maxHeartbeats 2000000 in
set_option maxRecDepth 100000 in
theorem part_call (h : PR B w b s N nv np S r v) {a : Nat} (hB : B ≤ w.heap.size) (hs : s.size ≤ 300) (he : r.e = 0) (ha : a < s.size) (hC : r.C.length ≤ a) (hn : isDB (bt s a) 4 = true) :
    Calls Tryz.prog 80 #[.pointer (some ⟨b, 0, none⟩), .int .u8 112, .int .i64 (a : Int)] w fun e w' => e = .returned (.int .i64 ((a + 1 : Nat) : Int)) ∧ PSt B w b s N nv np S v { r with C := r.C ++ [a] } w' := by
  have k0 := h.c0
  have k2 := h.c2
  rw [he] at k0
  clear he
  have hge : decide ((s.size : Int) ≤ (a : Int)) = false := by simp; omega
  have hbq := bt_eq s a ha
  have ⟨hb0, hb1⟩ := bt_bd s a
  have ha' : (a : Int) < (s.size : Int) := by omega
  have HN := hide (show tupI (ptI nv N 112 (bt s a)) = .tuple #[.string (bs []), .bool true] by
    rw [show ptI nv N 112 (bt s a) = yesI (isDB (bt s a) 4) from rfl, hn]; rfl)
  have HH := hide h
  clear hn
  go_enter Tryz.func80, Tryz.ntmps80
  go_wp2_with fail
  refine (ptParts_any _ _ nv N _ _ (by simp) (unhide HH).c4 (unhide HH).c3 hb0 hb1).mono ?_
  rintro e w1 ⟨rfl, q, rfl⟩
  rw [unhide HN]
  clear hbq hb0 hb1 k0 k2
  have hx := h.drewN q
  have HX := hide hx
  have HKX := hide (show Kp b v.ownBlock w (w.drewN q) from ⟨rfl, rfl, rfl, Nat.le_refl _, fun _ _ _ _ => rfl⟩)
  have hBx : B ≤ (w.drewN q).heap.size := hB
  clear h
  generalize w.drewN q = wq at *
  have k9 := hx.c911
  have kz := hx.fz 911
  have hne := hx.ne
  have hbl := hx.lt
  have hca := fun o => (World.cell?_of_block (w := wq) (a := ⟨b, 911, none⟩) (Below.heap_alloc wq o b hbl)).trans k9
  have hfa := fun o => (World.frozen?_of_block (w := wq) (a := ⟨b, 911, none⟩) (Below.heap_alloc wq o b hbl)).trans kz
  obtain ⟨i0, hi0, hz0, hz1, hz2⟩ := info_parts info_int
  have HI := hide (And.intro hi0 (And.intro hz0 (And.intro hz1 hz2)))
  clear hi0 hz0 hz1 hz2 hx
  go_wp2_with (at_builtin; refine wpList_append_lies _ rfl _ _ 50 rfl B 3 i0 (.int .i64 0) 1 8 Tryz.underlying50 (unhide HI).1 (unhide HI).2.1 (unhide HI).2.2.1 (unhide HI).2.2.2 rfl (by decide) _ r.C.length (cells r.C) rfl ((unhide HX).own.alloc _) ⟨wq.heap.size, 0, none⟩ 1 1 [.int .i64 (a : Int)] rfl rfl (World.news_of_block (cs := #[.int .i64 (a : Int)]) (t := 3) (fr := (0, 0)) (heap_alloc_new wq _)) (by simp [Value.oneCell']) (by omega) (by unfold maxLen; omega) (by omega) (by simp; omega) (wq.heap.size + 1) (by simp) ?_)
  intro gg cap w1 hown1 hgrow hat hlt
  have hc5 := (hgrow.cell_far ⟨b, 911, none⟩ (by simp; omega) (Ne.symm hne)).trans (hca _)
  have hf5 := (hgrow.frozen_far ⟨b, 911, none⟩ (by simp; omega) (Ne.symm hne)).trans (hfa _)
  have HT := hide ((unhide HX).push hown1 ⟨hgrow.os, hgrow.tape, hgrow.output, hgrow.size, hgrow.block⟩ hat)
  have HR := hide (PSt.step (unhide HKX) (Or.inl rfl) (unhide HT))
  clear HT hown1 hgrow hat hlt k9 kz hca hfa
  have hz9 : (bs []).size = 0 := rfl
  go_wp2_with fail
  generalize w1.setCell ⟨b, 911, none⟩ (.slice (some ⟨gg, 0, none⟩) (r.C.length + 1) cap) = w2 at *
  go_loopw [9, 10] (fun d e wr => d = .int .i64 ((a : Int) + 1) ∧ e = .int .i64 0 ∧ wr = w2) (fun _ _ _ => 0)
  case atStart => exact ⟨rfl, rfl, rfl⟩
  case round =>
    obtain ⟨rfl, rfl, rfl⟩ := hrel
    go_wp2_with fail
    go_ret
    exact ⟨rfl, unhide HR⟩

theorem rdPart (hs : s.size ≤ 300) : ∀ f, RdOk B b s N nv np S f := by
  intro f
  induction f with
  | zero => intro w r v k a _ _ _ h1 h2; omega
  | succ f ih =>
    intro w r v k a h hk hB h1 h2 h3
    by_cases he : r.e = 0
    · by_cases ha : a < s.size
      · cases hn : ptI nv N k (bt s a) with
        | none =>
          rw [rdP_bad he ha hn]
          refine (part_bad h hk he ha hn).mono ?_
          rintro e w' ⟨rfl, hp, hkp⟩
          exact ⟨rfl, v, hp, hkp, Or.inl rfl⟩
        | some inn =>
          by_cases hk2 : k = 112
          · subst hk2
            have hd : isDB (bt s a) 4 = true := by
              cases e : isDB (bt s a) 4 with
              | true => rfl
              | false =>
                have h9 : ptI nv N 112 (bt s a) = yesI (isDB (bt s a) 4) := rfl
                rw [h9, e] at hn; cases hn
            have hi : inn = bs [] := by
              have h9 : ptI nv N 112 (bt s a) = yesI (isDB (bt s a) 4) := rfl
              rw [h9, hd] at hn
              exact (Option.some.inj hn).symm
            rw [rdP_go he ha hn, hi]
            exact part_call h hB hs he ha h3 hd
          · rw [rdP_go he ha hn, if_neg hk2]
            exact part_go ih h hk hk2 hB hs he ha h2 h3 hn
      · rw [rdP_end he ha]
        refine (part_end h k he ha).mono ?_
        rintro e w' ⟨rfl, hp, hkp⟩
        exact ⟨rfl, v, hp, hkp, Or.inl rfl⟩
    · rw [rdP_flt he]
      refine (part_flt h k _ he).mono ?_
      rintro e w' ⟨rfl, rfl⟩
      exact ⟨rfl, v, h, Kp.refl _ _ _, Or.inl rfl⟩

end Go.Proofs.YtfcflnnleadpkaaGreat

namespace Go.Proofs.YtfcflnnleadpkaaGreat

section
variable {c : Nat → Int} {sz nv N np f a j : Nat} {k : Int} {r : RdS} {T T' : Nat → Nat → Int}

theorem rdP_stuck (h : r.e ≠ 0) : rdP c sz nv N f k a r = (a, r) := by
  cases f with
  | zero => rfl
  | succ f => exact rdP_flt h
theorem rdL_1 {g : Int → Nat → RdS → Nat × RdS} {x : UInt8} {nx : Nat} : rdL g a (bs [x]) (bs [x]).size 0 nx r = g (x.toNat : Int) nx { r with T := setT r.T a 0 nx } := rfl
theorem rdL_2 {g : Int → Nat → RdS → Nat × RdS} {x y : UInt8} {nx : Nat} : rdL g a (bs [x, y]) (bs [x, y]).size 0 nx r =
    g (y.toNat : Int) (g (x.toNat : Int) nx { r with T := setT r.T a 0 nx }).1 { (g (x.toNat : Int) nx { r with T := setT r.T a 0 nx }).2 with T := setT (g (x.toNat : Int) nx { r with T := setT r.T a 0 nx }).2.T a 1 (g (x.toNat : Int) nx { r with T := setT r.T a 0 nx }).1 } := rfl
def two (g : Int → Nat → RdS → Nat × RdS) (a i : Nat) (y : Int) (q : Nat × RdS) : Nat × RdS := g y q.1 { q.2 with T := setT q.2.T a i q.1 }
theorem rdL_2' {g : Int → Nat → RdS → Nat × RdS} {x y : UInt8} {nx : Nat} : rdL g a (bs [x, y]) (bs [x, y]).size 0 nx r = two g a 1 (y.toNat : Int) (two g a 0 (x.toNat : Int) (nx, r)) := rfl
theorem rdL_3' {g : Int → Nat → RdS → Nat × RdS} {x y z : UInt8} {nx : Nat} : rdL g a (bs [x, y, z]) (bs [x, y, z]).size 0 nx r = two g a 2 (z.toNat : Int) (two g a 1 (y.toNat : Int) (two g a 0 (x.toNat : Int) (nx, r))) := rfl
theorem rdL_1' {g : Int → Nat → RdS → Nat × RdS} {x : UInt8} {nx : Nat} : rdL g a (bs [x]) (bs [x]).size 0 nx r = two g a 0 (x.toNat : Int) (nx, r) := rfl
theorem rdL_0' {g : Int → Nat → RdS → Nat × RdS} {nx : Nat} : rdL g a (bs []) (bs []).size 0 nx r = (nx, r) := rfl

/-- A fault at j. -/
def Flt (j : Nat) (q : Nat × RdS) : Prop := q.2.e = 4 ∧ q.2.p = (j : Int)
theorem Flt.two {i j : Nat} {y : Int} {q : Nat × RdS} (h : Flt j q) : Flt j (two (rdP c sz nv N f) a i y q) := by
  unfold Go.Proofs.YtfcflnnleadpkaaGreat.two
  rw [rdP_stuck (by show q.2.e ≠ 0; rw [h.1]; omega)]
  exact h
theorem refR_flt (h : r.e = 0) : Flt a (a, refR r a) := by unfold refR Flt; rw [if_pos h]; exact ⟨rfl, rfl⟩

/-- The table is r's but for the rows from a to j. -/
def Out (a j : Nat) (T T' : Nat → Nat → Int) : Prop := ∀ k i, k < a ∨ j ≤ k → T' k i = T k i
theorem Out.trans {a j a' j' : Nat} {T1 T2 T3 : Nat → Nat → Int} (h : Out a' j' T1 T2) (k : Out a j T2 T3) (h1 : a ≤ a') (h2 : j' ≤ j) : Out a j T1 T3 := fun x i hx => (k x i hx).trans (h x i (by omega))
theorem Out.wide {a j a' j' : Nat} (h : Out a' j' T T') (h1 : a ≤ a') (h2 : j' ≤ j) : Out a j T T' := fun x i hx => h x i (by omega)
theorem Out.set {i : Nat} {x : Int} : Out a (a + 1) T (setT T a i x) := fun k m hk => by unfold setT; rw [if_neg (by omega)]
theorem setT_get {i : Nat} {x : Int} : setT T a i x a i = x := by unfold setT; rw [if_pos ⟨rfl, rfl⟩]
theorem setT_ne {i m : Nat} {x : Int} (h : m ≠ i) : setT T a i x a m = T a m := by unfold setT; rw [if_neg (by omega)]

theorem scE_lt3 : ∀ f i j, scE c nv f i = (j, false) → i < j := by
  intro f
  induction f with
  | zero => intro i j h; simp [scE] at h
  | succ f ih =>
    intro i j hs
    cases ho : isOp (c i)
    · obtain ⟨rfl, _⟩ := scE_inv_leaf hs ho; omega
    · obtain ⟨k, e1, e2⟩ := scE_inv_op hs ho
      have := ih _ _ e1; have := ih _ _ e2; omega
theorem wfS_lt3 : ∀ f i j, wfS c nv N np f i = (j, false) → i < j := by
  intro f
  induction f with
  | zero => intro i j h; simp [wfS] at h
  | succ f ih =>
    intro i j h
    rcases wfS_letter h with hc | hc | hc | hc | hc | hc | hc | hc
    · have := wfS_inv_plain h hc; omega
    · obtain ⟨k, e1, e2⟩ := wfS_inv_seq h hc
      have := ih _ _ e1; have := ih _ _ e2; omega
    · obtain ⟨e1, e2⟩ := wfS_inv_eq h hc
      have := scE_lt3 _ _ _ e2; omega
    · obtain ⟨k, m, e1, e2, e3⟩ := wfS_inv_i h hc
      have := scE_lt3 _ _ _ e1; have := ih _ _ e2; have := ih _ _ e3; omega
    · obtain ⟨k, e1, e2⟩ := wfS_inv_w h hc
      have := scE_lt3 _ _ _ e1; have := ih _ _ e2; omega
    · obtain ⟨e1, e2, rfl⟩ := wfS_inv_r h hc; omega
    · obtain ⟨e1, e2⟩ := wfS_inv_o h hc
      have := scE_lt3 _ _ _ e2; omega
    · obtain ⟨e1, rfl⟩ := wfS_inv_c h hc; omega
/-- The tables' rows that count. -/
theorem tbE_keep : ∀ f a j, scE c nv f a = (j, false) → (∀ k i, a ≤ k → k < j → T' k i = T k i) → tbE c nv T f a → tbE c nv T' f a := by
  intro f
  induction f with
  | zero => intro a j h; simp [scE] at h
  | succ f ih =>
    intro a j h hT ht ho
    obtain ⟨k, e1, e2⟩ := scE_inv_op h ho
    obtain ⟨t0, t1, tb1, tb2⟩ := ht ho
    have l1 := scE_lt3 _ _ _ e1
    have l2 := scE_lt3 _ _ _ e2
    rw [e1] at tb2 ⊢
    rw [e1] at t1
    refine ⟨by rw [hT a 0 (Nat.le_refl _) (by omega)]; exact t0, by rw [hT a 1 (Nat.le_refl _) (by omega)]; exact t1, ih _ _ e1 (fun x i h1 h2 => hT x i (by omega) (by omega)) tb1, ih _ _ e2 (fun x i h1 h2 => hT x i (by omega) (by omega)) tb2⟩
theorem tbS_keep : ∀ f a j, wfS c nv N np f a = (j, false) → (∀ k i, a ≤ k → k < j → T' k i = T k i) → tbS c nv N np T f a → tbS c nv N np T' f a := by
  intro f
  induction f with
  | zero => intro a j h; simp [wfS] at h
  | succ f ih =>
    intro a j h hT ht
    have hl := wfS_lt3 _ _ _ h
    have h0 : ∀ i, T' a i = T a i := fun i => hT a i (Nat.le_refl _) hl
    obtain ⟨s1, s2, s3, s4, s5, s6, s7⟩ := ht
    refine ⟨fun hc => ?_, fun hc => ?_, fun hc => ?_, fun hc => ?_, fun hc => ?_, fun hc => ?_, fun hc => ?_⟩
    · obtain ⟨k, e1, e2⟩ := wfS_inv_seq h hc
      obtain ⟨t0, t1, tb1, tb2⟩ := s1 hc
      have l1 := wfS_lt3 _ _ _ e1
      have l2 := wfS_lt3 _ _ _ e2
      rw [e1] at t1 tb2 ⊢
      exact ⟨by rw [h0]; exact t0, by rw [h0]; exact t1, ih _ _ e1 (fun x i h1 h2 => hT x i (by omega) (by omega)) tb1, ih _ _ e2 (fun x i h1 h2 => hT x i (by omega) (by omega)) tb2⟩
    · obtain ⟨e1, e2⟩ := wfS_inv_eq h hc
      obtain ⟨t0, t1, tb⟩ := s2 hc
      exact ⟨by rw [h0]; exact t0, by rw [h0]; exact t1, tbE_keep _ _ _ e2 (fun x i h1 h2 => hT x i (by omega) (by omega)) tb⟩
    · obtain ⟨k, m, e1, e2, e3⟩ := wfS_inv_i h hc
      obtain ⟨t0, t1, t2, tb1, tb2, tb3⟩ := s3 hc
      have l1 := scE_lt3 _ _ _ e1
      have l2 := wfS_lt3 _ _ _ e2
      have l3 := wfS_lt3 _ _ _ e3
      rw [e1] at t1 t2 tb2 tb3 ⊢
      rw [e2] at t2 tb3 ⊢
      exact ⟨by rw [h0]; exact t0, by rw [h0]; exact t1, by rw [h0]; exact t2, tbE_keep _ _ _ e1 (fun x i h1 h2 => hT x i (by omega) (by omega)) tb1, ih _ _ e2 (fun x i h1 h2 => hT x i (by omega) (by omega)) tb2, ih _ _ e3 (fun x i h1 h2 => hT x i (by omega) (by omega)) tb3⟩
    · obtain ⟨k, e1, e2⟩ := wfS_inv_w h hc
      obtain ⟨t0, t1, tb1, tb2⟩ := s4 hc
      have l1 := scE_lt3 _ _ _ e1
      have l2 := wfS_lt3 _ _ _ e2
      rw [e1] at t1 tb2 ⊢
      exact ⟨by rw [h0]; exact t0, by rw [h0]; exact t1, tbE_keep _ _ _ e1 (fun x i h1 h2 => hT x i (by omega) (by omega)) tb1, ih _ _ e2 (fun x i h1 h2 => hT x i (by omega) (by omega)) tb2⟩
    · obtain ⟨t0, t1⟩ := s5 hc
      exact ⟨by rw [h0]; exact t0, by rw [h0]; exact t1⟩
    · obtain ⟨e1, e2⟩ := wfS_inv_o h hc
      obtain ⟨t0, t1, tb⟩ := s6 hc
      exact ⟨by rw [h0]; exact t0, by rw [h0]; exact t1, tbE_keep _ _ _ e2 (fun x i h1 h2 => hT x i (by omega) (by omega)) tb⟩
    · rw [h0]; exact s7 hc
/-- Fewer procedures: whole all the same. -/
theorem wfS_four (hn : np ≤ 4) : ∀ f a j, wfS c nv N np f a = (j, false) → wfS c nv N 4 f a = (j, false) ∧ (tbS c nv N 4 T f a → tbS c nv N np T f a) := by
  intro f
  induction f with
  | zero => intro a j h; simp [wfS] at h
  | succ f ih =>
    intro a j h
    rcases wfS_letter h with hc | hc | hc | hc | hc | hc | hc | hc
    · have e := wfS_inv_plain h hc
      refine ⟨by simp only [wfS]; rw [if_pos hc, e], fun _ => ⟨fun h => by omega, fun h => by omega, fun h => by omega, fun h => by omega, fun h => by omega, fun h => by omega, fun h => by omega⟩⟩
    · obtain ⟨k, e1, e2⟩ := wfS_inv_seq h hc
      obtain ⟨a1, a2⟩ := ih _ _ e1
      obtain ⟨b1, b2⟩ := ih _ _ e2
      refine ⟨by simp only [wfS]; rw [if_neg (by omega), if_pos hc, a1]; simpa using b1, fun ht => ⟨fun _ => ?_, fun h => by omega, fun h => by omega, fun h => by omega, fun h => by omega, fun h => by omega, fun h => by omega⟩⟩
      obtain ⟨t0, t1, tb1, tb2⟩ := ht.1 hc
      rw [a1] at t1 tb2
      rw [e1]
      exact ⟨t0, t1, a2 tb1, b2 tb2⟩
    · obtain ⟨e1, e2⟩ := wfS_inv_eq h hc
      refine ⟨by simp only [wfS]; rw [if_neg (by omega), if_neg (by omega), if_pos hc, if_pos e1, e2], fun ht => ⟨fun h => by omega, fun _ => ht.2.1 hc, fun h => by omega, fun h => by omega, fun h => by omega, fun h => by omega, fun h => by omega⟩⟩
    · obtain ⟨k, m, e1, e2, e3⟩ := wfS_inv_i h hc
      obtain ⟨a1, a2⟩ := ih _ _ e2
      obtain ⟨b1, b2⟩ := ih _ _ e3
      refine ⟨by simp only [wfS]; rw [if_neg (by omega), if_neg (by omega), if_neg (by omega), if_pos hc, e1]; simp only [Bool.false_eq_true, if_false]; rw [a1]; simpa using b1, fun ht => ⟨fun h => by omega, fun h => by omega, fun _ => ?_, fun h => by omega, fun h => by omega, fun h => by omega, fun h => by omega⟩⟩
      obtain ⟨t0, t1, t2, tb1, tb2, tb3⟩ := ht.2.2.1 hc
      rw [e1] at t1 t2 tb2 tb3 ⊢
      rw [a1] at t2 tb3
      rw [e2]
      exact ⟨t0, t1, t2, tb1, a2 tb2, b2 tb3⟩
    · obtain ⟨k, e1, e2⟩ := wfS_inv_w h hc
      obtain ⟨a1, a2⟩ := ih _ _ e2
      refine ⟨by simp only [wfS]; rw [if_neg (by omega), if_neg (by omega), if_neg (by omega), if_neg (by omega), if_pos hc, e1]; simpa using a1, fun ht => ⟨fun h => by omega, fun h => by omega, fun h => by omega, fun _ => ?_, fun h => by omega, fun h => by omega, fun h => by omega⟩⟩
      obtain ⟨t0, t1, tb1, tb2⟩ := ht.2.2.2.1 hc
      rw [e1] at t1 tb2 ⊢
      exact ⟨t0, t1, tb1, a2 tb2⟩
    · obtain ⟨e1, e2, rfl⟩ := wfS_inv_r h hc
      refine ⟨by simp only [wfS]; rw [if_neg (by omega), if_neg (by omega), if_neg (by omega), if_neg (by omega), if_neg (by omega), if_pos hc, if_pos ⟨e1, e2⟩], fun ht => ⟨fun h => by omega, fun h => by omega, fun h => by omega, fun h => by omega, fun _ => ht.2.2.2.2.1 hc, fun h => by omega, fun h => by omega⟩⟩
    · obtain ⟨e1, e2⟩ := wfS_inv_o h hc
      refine ⟨by simp only [wfS]; rw [if_neg (by omega), if_neg (by omega), if_neg (by omega), if_neg (by omega), if_neg (by omega), if_neg (by omega), if_pos hc, if_pos e1, e2], fun ht => ⟨fun h => by omega, fun h => by omega, fun h => by omega, fun h => by omega, fun h => by omega, fun _ => ht.2.2.2.2.2.1 hc, fun h => by omega⟩⟩
    · obtain ⟨e1, rfl⟩ := wfS_inv_c h hc
      have e4 : isDB (c (a + 1)) 4 = true := by
        have := (isDB_iff _ _).1 e1
        exact (isDB_iff _ _).2 ⟨this.1, this.2.1, by omega⟩
      refine ⟨by simp only [wfS]; rw [if_neg (by omega), if_neg (by omega), if_neg (by omega), if_neg (by omega), if_neg (by omega), if_neg (by omega), if_neg (by omega), if_pos hc]; exact if_pos e4, fun ht => ⟨fun h => by omega, fun h => by omega, fun h => by omega, fun h => by omega, fun h => by omega, fun h => by omega, fun _ => ht.2.2.2.2.2.2 hc⟩⟩
end

end Go.Proofs.YtfcflnnleadpkaaGreat

namespace Go.Proofs.YtfcflnnleadpkaaGreat

section
variable {c : Nat → Int} {sz nv N f a j : Nat} {r : RdS}

theorem scE_in (hc : ∀ a, sz ≤ a → c a = 0) : ∀ f a j, scE c nv f a = (j, false) → j ≤ sz := by
  intro f
  induction f with
  | zero => intro a j h; simp [scE] at h
  | succ f ih =>
    intro a j h
    cases ho : isOp (c a)
    · obtain ⟨rfl, h2⟩ := scE_inv_leaf h ho
      by_cases ha : a < sz
      · omega
      · have := hc a (by omega)
        rw [this] at h2
        rcases h2 with h2 | ⟨_, h2⟩
        · cases h2
        · unfold isVar at h2; simp at h2
    · obtain ⟨k, e1, e2⟩ := scE_inv_op h ho
      exact ih _ _ e2
theorem isOp_in (hc : ∀ a, sz ≤ a → c a = 0) (h : isOp (c a) = true) : a < sz := by
  by_cases ha : a < sz
  · exact ha
  · rw [hc a (by omega)] at h; cases h
theorem isVar_in (hc : ∀ a, sz ≤ a → c a = 0) (h : isVar nv (c a) = true) : a < sz := by
  by_cases ha : a < sz
  · exact ha
  · rw [hc a (by omega)] at h; unfold isVar at h; simp at h
theorem isDB_in {m : Int} (hc : ∀ a, sz ≤ a → c a = 0) (h : isDB (c a) m = true) : a < sz := by
  by_cases ha : a < sz
  · exact ha
  · rw [hc a (by omega)] at h; have := (isDB_iff _ _).1 h; omega
/-- A part that is a byte. -/
theorem rd_one {k : Int} {b : Bool} (he : r.e = 0) (hf : f ≠ 0) (hp : ptI nv N k (c a) = yesI b) (hk : k ≠ 112) (hin : b = true → a < sz) : rdP c sz nv N f k a r = if b = true then (a + 1, r) else (a, refR r a) := by
  obtain ⟨m, rfl⟩ : ∃ m, f = m + 1 := ⟨f - 1, by omega⟩
  cases b
  · rw [if_neg (by simp)]
    by_cases ha : a < sz
    · exact rdP_bad he ha hp
    · exact rdP_end he ha
  · rw [if_pos rfl, rdP_go he (hin rfl) hp, if_neg hk]; rfl
theorem rd_call {b : Bool} (he : r.e = 0) (hf : f ≠ 0) (hp : ptI nv N 112 (c a) = yesI b) (hin : b = true → a < sz) : rdP c sz nv N f 112 a r = if b = true then (a + 1, { r with C := r.C ++ [a] }) else (a, refR r a) := by
  obtain ⟨m, rfl⟩ : ∃ m, f = m + 1 := ⟨f - 1, by omega⟩
  cases b
  · rw [if_neg (by simp)]
    by_cases ha : a < sz
    · exact rdP_bad he ha hp
    · exact rdP_end he ha
  · rw [if_pos rfl, rdP_go he (hin rfl) hp, if_pos rfl]; rfl

theorem rdE_ok (hc : ∀ a, sz ≤ a → c a = 0) : ∀ (f a : Nat) (r : RdS), r.e = 0 → a ≤ sz → sz < a + f →
    (∀ j, scE c nv f a = (j, false) → ∃ T', rdP c sz nv N f 101 a r = (j, { r with T := T' }) ∧ tbE c nv T' f a ∧ Out a j r.T T') ∧ (∀ j, scE c nv f a = (j, true) → Flt j (rdP c sz nv N f 101 a r)) := by
  intro f
  induction f with
  | zero => intro a r _ h1 h2; omega
  | succ f ih =>
    intro a r he h1 h2
    cases ho : isOp (c a)
    · cases hd : (isDB (c a) 10 || isVar nv (c a))
      · have hd2 : isDB (c a) 10 = false ∧ isVar nv (c a) = false := by simpa using hd
        have hs := scE_bad (f := f) ho hd2.1 hd2.2
        rw [hs]
        refine ⟨fun j h => by simp at h, fun j h => ?_⟩
        simp at h
        subst h
        have hp : ptI nv N 101 (c a) = none := by
          show exI nv (c a) = none
          unfold exI; rw [if_neg (by simp [ho]), hd]; rfl
        by_cases ha : a < sz
        · rw [rdP_bad he ha hp]; exact refR_flt he
        · rw [rdP_end he ha]; exact refR_flt he
      · have ha : a < sz := by
          rcases Bool.or_eq_true_iff.1 hd with h | h
          · exact isDB_in hc h
          · exact isVar_in hc h
        have hs : scE c nv (f + 1) a = (a + 1, false) := by
          cases h10 : isDB (c a) 10
          · rw [h10, Bool.false_or] at hd; exact scE_var ho h10 hd
          · exact scE_dig ho h10
        rw [hs]
        refine ⟨fun j h => ?_, fun j h => by simp at h⟩
        simp at h
        subst h
        have hp : ptI nv N 101 (c a) = some (bs []) := by
          show exI nv (c a) = some (bs [])
          unfold exI; rw [if_neg (by simp [ho]), hd]; rfl
        refine ⟨r.T, ?_, fun h => (by rw [ho] at h; cases h), fun _ _ _ => rfl⟩
        rw [rdP_go he ha hp, if_neg (by omega)]; rfl
    · have ha : a < sz := isOp_in hc ho
      have hp : ptI nv N 101 (c a) = some (bs [101, 101]) := by
        show exI nv (c a) = _
        unfold exI; rw [if_pos ho]
      have hgo : rdP c sz nv N (f + 1) 101 a r = two (rdP c sz nv N f) a 1 101 (two (rdP c sz nv N f) a 0 101 (a + 1, r)) := by
        rw [rdP_go he ha hp, if_neg (by omega), rdL_2']; rfl
      rw [hgo]
      obtain ⟨i1, i2⟩ := ih (a + 1) { r with T := setT r.T a 0 ((a + 1 : Nat) : Int) } he (by omega) (by omega)
      have e0 : two (rdP c sz nv N f) a 0 101 (a + 1, r) = rdP c sz nv N f 101 (a + 1) { r with T := setT r.T a 0 ((a + 1 : Nat) : Int) } := rfl
      rw [scE_op ho]
      obtain ⟨k, hk⟩ : ∃ k, (scE c nv f (a + 1)).1 = k := ⟨_, rfl⟩
      cases hb : (scE c nv f (a + 1)).2
      · have hs1 : scE c nv f (a + 1) = (k, false) := Prod.ext hk hb
        obtain ⟨T1, r1, tb1, o1⟩ := i1 k hs1
        replace o1 : Out (a + 1) k (setT r.T a 0 ((a + 1 : Nat) : Int)) T1 := o1
        have l1 := scE_lt3 _ _ _ hs1
        have in1 := scE_in hc _ _ _ hs1
        rw [if_neg (by simp), hk, e0, r1]
        have e1 : two (rdP c sz nv N f) a 1 101 (k, { r with T := T1 }) = rdP c sz nv N f 101 k { r with T := setT T1 a 1 (k : Int) } := rfl
        have e2 : two (rdP c sz nv N f) a 1 101 (k, { ({ r with T := setT r.T a 0 ((a + 1 : Nat) : Int) } : RdS) with T := T1 }) = rdP c sz nv N f 101 k { r with T := setT T1 a 1 (k : Int) } := e1
        rw [e2]
        obtain ⟨j1, j2⟩ := ih k { r with T := setT T1 a 1 (k : Int) } he in1 (by omega)
        refine ⟨fun j h => ?_, fun j h => j2 j h⟩
        obtain ⟨T2, r2, tb2, o2⟩ := j1 j h
        replace o2 : Out k j (setT T1 a 1 (k : Int)) T2 := o2
        have l2 := scE_lt3 _ _ _ h
        refine ⟨T2, r2, fun _ => ?_, ?_⟩
        · rw [hk]
          refine ⟨?_, ?_, ?_, tb2⟩
          · rw [o2 a 0 (by omega), setT_ne (by omega), o1 a 0 (by omega), setT_get]
          · rw [o2 a 1 (by omega), setT_get]
          · refine tbE_keep _ _ _ hs1 (fun x i g1 g2 => ?_) tb1
            rw [o2 x i (by omega)]
            exact (Out.set (T := T1) (a := a) (i := 1) (x := (k : Int))) x i (by omega)
        · intro x i hx
          rw [o2 x i (by omega), (Out.set (T := T1) (a := a) (i := 1) (x := (k : Int))) x i (by omega), o1 x i (by omega)]
          exact (Out.set (T := r.T) (a := a) (i := 0)) x i (by omega)
      · have hs1 : scE c nv f (a + 1) = (k, true) := Prod.ext hk hb
        rw [if_pos rfl, hs1, e0]
        refine ⟨fun j h => by simp at h, fun j h => ?_⟩
        simp at h
        subst h
        exact (i2 k hs1).two

theorem wf4_of {C D : List Nat} (h : scS c nv N f a C = (j, false, D)) : wfS c nv N 4 f a = (j, false) := (scS_wf (np := 4) f a j C D h).2 (fun _ _ h => h)
theorem wfS_in {np : Nat} (hc : ∀ a, sz ≤ a → c a = 0) : ∀ f a j, wfS c nv N np f a = (j, false) → j ≤ sz := by
  intro f
  induction f with
  | zero => intro a j h; simp [wfS] at h
  | succ f ih =>
    intro a j h
    have hin : c a ≠ 0 → a < sz := fun h0 => by
      by_cases ha : a < sz
      · exact ha
      · exact absurd (hc a (by omega)) h0
    rcases wfS_letter h with hl | hl | hl | hl | hl | hl | hl | hl
    · have := wfS_inv_plain h hl
      have := hin (by omega); omega
    · obtain ⟨k, e1, e2⟩ := wfS_inv_seq h hl
      exact ih _ _ e2
    · obtain ⟨e1, e2⟩ := wfS_inv_eq h hl
      exact scE_in hc _ _ _ e2
    · obtain ⟨k, m, e1, e2, e3⟩ := wfS_inv_i h hl
      exact ih _ _ e3
    · obtain ⟨k, e1, e2⟩ := wfS_inv_w h hl
      exact ih _ _ e2
    · obtain ⟨e1, e2, rfl⟩ := wfS_inv_r h hl
      have := isVar_in hc e2; omega
    · obtain ⟨e1, e2⟩ := wfS_inv_o h hl
      exact scE_in hc _ _ _ e2
    · obtain ⟨e1, rfl⟩ := wfS_inv_c h hl
      have := isDB_in hc e1; omega

/-- What the reader of statements comes to. -/
def SRd (c : Nat → Int) (sz nv N f a : Nat) (r : RdS) : Prop :=
  (∀ j D, scS c nv N f a r.C = (j, false, D) → ∃ T', rdP c sz nv N f 115 a r = (j, { r with C := D, T := T' }) ∧ tbS c nv N 4 T' f a ∧ Out a j r.T T') ∧ (∀ j D, scS c nv N f a r.C = (j, true, D) → Flt j (rdP c sz nv N f 115 a r))

section letters
theorem srd_go (hc : ∀ a, sz ≤ a → c a = 0) (he : r.e = 0) (h1 : a ≤ sz) (h2 : sz < a + (f + 1)) {inn : ByteArray} (hl : c a ≠ 0) (hp : stI (c a) = some inn) : a < sz ∧ rdP c sz nv N (f + 1) 115 a r = rdL (rdP c sz nv N f) a inn inn.size 0 (a + 1) r := by
  have ha : a < sz := by
    by_cases ha : a < sz
    · exact ha
    · exact absurd (hc a (by omega)) hl
  have _ := h1
  have _ := h2
  refine ⟨ha, ?_⟩
  rw [rdP_go he ha (show ptI nv N 115 (c a) = some inn from hp), if_neg (by omega)]
theorem srd_plain (hc : ∀ a, sz ≤ a → c a = 0) (he : r.e = 0) (h1 : a ≤ sz) (h2 : sz < a + (f + 1)) (hl : c a = 46 ∨ c a = 120) : SRd c sz nv N (f + 1) a r := by
  obtain ⟨ha, hg⟩ := srd_go (nv := nv) (N := N) hc he h1 h2 (inn := bs []) (by omega) (by unfold stI; rw [if_pos hl])
  unfold SRd
  rw [hg]
  have hs : scS c nv N (f + 1) a r.C = (a + 1, false, r.C) := by simp only [scS]; rw [if_pos hl]
  rw [hs]
  refine ⟨fun j D h => ?_, fun j D h => by simp at h⟩
  simp at h
  obtain ⟨rfl, rfl⟩ := h
  exact ⟨r.T, rfl, ⟨fun h => by omega, fun h => by omega, fun h => by omega, fun h => by omega, fun h => by omega, fun h => by omega, fun h => by omega⟩, fun _ _ _ => rfl⟩
/-- Two statements, one behind the other, as the parts m and m + 1. -/
theorem srd_two (hc : ∀ a, sz ≤ a → c a = 0) (he : r.e = 0) (h1 : a ≤ sz) (h2 : sz < a + (f + 1)) (ih : ∀ (a : Nat) (r : RdS), r.e = 0 → a ≤ sz → sz < a + f → SRd c sz nv N f a r) {m x : Nat} (hx : x ≤ sz) (hax : a < x) :
    (∀ j D, thenS (scS c nv N f x r.C) (scS c nv N f) = (j, false, D) → ∃ T', two (rdP c sz nv N f) a (m + 1) 115 (two (rdP c sz nv N f) a m 115 (x, r)) = (j, { r with C := D, T := T' }) ∧
      ∃ k, wfS c nv N 4 f x = (k, false) ∧ wfS c nv N 4 f k = (j, false) ∧ tbS c nv N 4 T' f x ∧ tbS c nv N 4 T' f k ∧ T' a m = (x : Int) ∧ T' a (m + 1) = (k : Int) ∧ (∀ y i, y < x → (y ≠ a ∨ (i ≠ m ∧ i ≠ m + 1)) → T' y i = r.T y i) ∧ Out a j r.T T') ∧
    (∀ j D, thenS (scS c nv N f x r.C) (scS c nv N f) = (j, true, D) → Flt j (two (rdP c sz nv N f) a (m + 1) 115 (two (rdP c sz nv N f) a m 115 (x, r)))) := by
  have _ := h1
  obtain ⟨i1, i2⟩ := ih x { r with T := setT r.T a m (x : Int) } he hx (by omega)
  have e0 : two (rdP c sz nv N f) a m 115 (x, r) = rdP c sz nv N f 115 x { r with T := setT r.T a m (x : Int) } := rfl
  rw [e0]
  obtain ⟨k, b, D1, hs⟩ : ∃ k b D1, scS c nv N f x r.C = (k, b, D1) := ⟨_, _, _, rfl⟩
  rw [hs]
  cases b
  · obtain ⟨T1, r1, tb1, o1⟩ := i1 k D1 hs
    replace o1 : Out x k (setT r.T a m (x : Int)) T1 := o1
    have w1 := wf4_of hs
    have l1 := wfS_lt3 _ _ _ w1
    have in1 := wfS_in hc _ _ _ w1
    rw [r1]
    have e1 : two (rdP c sz nv N f) a (m + 1) 115 (k, { ({ r with T := setT r.T a m (x : Int) } : RdS) with C := D1, T := T1 }) = rdP c sz nv N f 115 k { r with C := D1, T := setT T1 a (m + 1) (k : Int) } := rfl
    rw [e1]
    have ht : thenS (k, false, D1) (scS c nv N f) = scS c nv N f k D1 := by unfold thenS; rw [if_neg (by simp)]
    rw [ht]
    obtain ⟨j1, j2⟩ := ih k { r with C := D1, T := setT T1 a (m + 1) (k : Int) } he in1 (by omega)
    refine ⟨fun j D h => ?_, fun j D h => j2 j D h⟩
    obtain ⟨T2, r2, tb2, o2⟩ := j1 j D h
    replace o2 : Out k j (setT T1 a (m + 1) (k : Int)) T2 := o2
    have w2 := wf4_of h
    have l2 := wfS_lt3 _ _ _ w2
    have row : ∀ y i, y < k → T2 y i = setT T1 a (m + 1) (k : Int) y i := fun y i hy => o2 y i (by omega)
    refine ⟨T2, r2, k, w1, w2, tbS_keep _ _ _ w1 (fun y i g1 g2 => ?_) tb1, tb2, ?_, ?_, fun y i hy hne => ?_, fun y i hy => ?_⟩
    · rw [row y i (by omega)]
      exact (Out.set (T := T1) (a := a) (i := m + 1) (x := (k : Int))) y i (by omega)
    · rw [row a m (by omega), setT_ne (by omega), o1 a m (by omega), setT_get]
    · rw [row a (m + 1) (by omega), setT_get]
    · rw [row y i (by omega)]
      have e3 : setT T1 a (m + 1) (k : Int) y i = T1 y i := by unfold setT; rw [if_neg (by omega)]
      rw [e3, o1 y i (by omega)]
      show setT r.T a m (x : Int) y i = r.T y i
      unfold setT; rw [if_neg (by omega)]
    · rw [o2 y i (by omega), (Out.set (T := T1) (a := a) (i := m + 1) (x := (k : Int))) y i (by omega), o1 y i (by omega)]
      exact (Out.set (T := r.T) (a := a) (i := m)) y i (by omega)
  · have ht : thenS (k, true, D1) (scS c nv N f) = (k, true, D1) := by unfold thenS; rw [if_pos rfl]
    rw [ht]
    refine ⟨fun j D h => by simp at h, fun j D h => ?_⟩
    simp at h
    obtain ⟨rfl, rfl⟩ := h
    exact (i2 k D1 hs).two
theorem srd_seq (hc : ∀ a, sz ≤ a → c a = 0) (he : r.e = 0) (h1 : a ≤ sz) (h2 : sz < a + (f + 1)) (ih : ∀ (a : Nat) (r : RdS), r.e = 0 → a ≤ sz → sz < a + f → SRd c sz nv N f a r) (hl : c a = 44 ∨ c a = 116) : SRd c sz nv N (f + 1) a r := by
  obtain ⟨ha, hg⟩ := srd_go (nv := nv) (N := N) hc he h1 h2 (inn := bs [115, 115]) (by omega) (by unfold stI; rw [if_neg (by omega), if_pos hl])
  unfold SRd
  rw [hg, rdL_2']
  have hs : scS c nv N (f + 1) a r.C = thenS (scS c nv N f (a + 1) r.C) (scS c nv N f) := by simp only [scS]; rw [if_neg (by omega), if_pos hl]
  rw [hs]
  obtain ⟨s1, s2⟩ := srd_two (N := N) (nv := nv) hc he h1 h2 ih (m := 0) (x := a + 1) (by omega) (by omega)
  refine ⟨fun j D h => ?_, fun j D h => s2 j D h⟩
  obtain ⟨T', q1, k, w1, w2, tb1, tb2, t0, t1, _, o⟩ := s1 j D h
  refine ⟨T', q1, ⟨fun _ => ?_, fun h => by omega, fun h => by omega, fun h => by omega, fun h => by omega, fun h => by omega, fun h => by omega⟩, o⟩
  rw [w1]
  exact ⟨t0, t1, tb1, tb2⟩
/-- An expression as the part m. -/
theorem srd_ex (hc : ∀ a, sz ≤ a → c a = 0) (he : r.e = 0) (h1 : a ≤ sz) (h2 : sz < a + (f + 1)) {m x : Nat} (hx : x ≤ sz) (hax : a < x) :
    (∀ j, scE c nv f x = (j, false) → ∃ T', two (rdP c sz nv N f) a m 101 (x, r) = (j, { r with T := T' }) ∧ tbE c nv T' f x ∧ T' a m = (x : Int) ∧ (∀ i, i ≠ m → T' a i = r.T a i) ∧ Out a j r.T T') ∧
    (∀ j, scE c nv f x = (j, true) → Flt j (two (rdP c sz nv N f) a m 101 (x, r))) := by
  have _ := h1
  obtain ⟨i1, i2⟩ := rdE_ok (nv := nv) (N := N) hc f x { r with T := setT r.T a m (x : Int) } he hx (by omega)
  have e0 : two (rdP c sz nv N f) a m 101 (x, r) = rdP c sz nv N f 101 x { r with T := setT r.T a m (x : Int) } := rfl
  rw [e0]
  refine ⟨fun j h => ?_, i2⟩
  obtain ⟨T', q1, tb, o⟩ := i1 j h
  replace o : Out x j (setT r.T a m (x : Int)) T' := o
  have l := scE_lt3 _ _ _ h
  refine ⟨T', q1, tb, by rw [o a m (by omega), setT_get], fun i hi => by rw [o a i (by omega), setT_ne hi], fun y i hy => ?_⟩
  rw [o y i (by omega)]
  exact (Out.set (T := r.T) (a := a) (i := m)) y i (by omega)
theorem srd_i (hc : ∀ a, sz ≤ a → c a = 0) (he : r.e = 0) (h1 : a ≤ sz) (h2 : sz < a + (f + 1)) (ih : ∀ (a : Nat) (r : RdS), r.e = 0 → a ≤ sz → sz < a + f → SRd c sz nv N f a r) (hl : c a = 105) : SRd c sz nv N (f + 1) a r := by
  obtain ⟨ha, hg⟩ := srd_go (nv := nv) (N := N) hc he h1 h2 (inn := bs [101, 115, 115]) (by omega) (by unfold stI; rw [if_neg (by omega), if_neg (by omega), if_neg (by omega), if_pos hl])
  unfold SRd
  rw [hg, rdL_3']
  have hs : scS c nv N (f + 1) a r.C = thenE (scE c nv f (a + 1)) r.C (fun j => thenS (scS c nv N f j r.C) (scS c nv N f)) := by simp only [scS]; rw [if_neg (by omega), if_neg (by omega), if_neg (by omega), if_pos hl]
  rw [hs]
  obtain ⟨x1, x2⟩ := srd_ex (N := N) (nv := nv) hc he h1 h2 (m := 0) (x := a + 1) (by omega) (by omega)
  obtain ⟨k, b, hsE⟩ : ∃ k b, scE c nv f (a + 1) = (k, b) := ⟨_, _, rfl⟩
  rw [hsE]
  cases b
  · obtain ⟨T1, q1, tb, t0, tr, o1⟩ := x1 k hsE
    have in1 := scE_in hc _ _ _ hsE
    have l1 := scE_lt3 _ _ _ hsE
    have e1 : thenE (k, false) r.C (fun j => thenS (scS c nv N f j r.C) (scS c nv N f)) = thenS (scS c nv N f k r.C) (scS c nv N f) := by unfold thenE; rw [if_neg (by simp)]
    rw [e1]
    have q1' : two (rdP c sz nv N f) a 0 ((101 : UInt8).toNat : Int) (a + 1, r) = (k, { r with T := T1 }) := q1
    rw [q1']
    obtain ⟨s1, s2⟩ := srd_two (N := N) (nv := nv) (r := { r with T := T1 }) hc he h1 h2 ih (m := 1) (x := k) in1 (by omega)
    refine ⟨fun j D h => ?_, fun j D h => s2 j D h⟩
    obtain ⟨T', p1, k2, w1, w2, tb1, tb2, t1, t2, rows, o⟩ := s1 j D h
    replace rows : ∀ y i, y < k → (y ≠ a ∨ (i ≠ 1 ∧ i ≠ 1 + 1)) → T' y i = T1 y i := rows
    refine ⟨T', p1, ⟨fun h => by omega, fun h => by omega, fun _ => ?_, fun h => by omega, fun h => by omega, fun h => by omega, fun h => by omega⟩, fun y i hy => ?_⟩
    · rw [hsE, w1]
      refine ⟨by rw [rows a 0 (by omega) (by omega)]; exact t0, t1, t2, tbE_keep _ _ _ hsE (fun y i g1 g2 => rows y i (by omega) (by omega)) tb, tb1, tb2⟩
    · rw [show T' y i = T1 y i from o y i hy]
      have w3 := wfS_lt3 _ _ _ w1
      have w4 := wfS_lt3 _ _ _ w2
      exact o1 y i (by omega)
  · have e1 : thenE (k, true) r.C (fun j => thenS (scS c nv N f j r.C) (scS c nv N f)) = (k, true, r.C) := by unfold thenE; rw [if_pos rfl]
    rw [e1]
    refine ⟨fun j D h => by simp at h, fun j D h => ?_⟩
    simp at h
    obtain ⟨rfl, rfl⟩ := h
    exact (x2 k hsE).two.two
theorem srd_w (hc : ∀ a, sz ≤ a → c a = 0) (he : r.e = 0) (h1 : a ≤ sz) (h2 : sz < a + (f + 1)) (ih : ∀ (a : Nat) (r : RdS), r.e = 0 → a ≤ sz → sz < a + f → SRd c sz nv N f a r) (hl : c a = 119) : SRd c sz nv N (f + 1) a r := by
  obtain ⟨ha, hg⟩ := srd_go (nv := nv) (N := N) hc he h1 h2 (inn := bs [101, 115]) (by omega) (by unfold stI; rw [if_neg (by omega), if_neg (by omega), if_neg (by omega), if_neg (by omega), if_pos hl])
  unfold SRd
  rw [hg, rdL_2']
  have hs : scS c nv N (f + 1) a r.C = thenE (scE c nv f (a + 1)) r.C (fun j => scS c nv N f j r.C) := by simp only [scS]; rw [if_neg (by omega), if_neg (by omega), if_neg (by omega), if_neg (by omega), if_pos hl]
  rw [hs]
  obtain ⟨x1, x2⟩ := srd_ex (N := N) (nv := nv) hc he h1 h2 (m := 0) (x := a + 1) (by omega) (by omega)
  obtain ⟨k, b, hsE⟩ : ∃ k b, scE c nv f (a + 1) = (k, b) := ⟨_, _, rfl⟩
  rw [hsE]
  cases b
  · obtain ⟨T1, q1, tb, t0, tr, o1⟩ := x1 k hsE
    have in1 := scE_in hc _ _ _ hsE
    have l1 := scE_lt3 _ _ _ hsE
    have e1 : thenE (k, false) r.C (fun j => scS c nv N f j r.C) = scS c nv N f k r.C := by unfold thenE; rw [if_neg (by simp)]
    rw [e1]
    have q1' : two (rdP c sz nv N f) a 0 ((101 : UInt8).toNat : Int) (a + 1, r) = (k, { r with T := T1 }) := q1
    rw [q1']
    have e2 : two (rdP c sz nv N f) a 1 ((115 : UInt8).toNat : Int) (k, { r with T := T1 }) = rdP c sz nv N f 115 k { r with T := setT T1 a 1 (k : Int) } := rfl
    rw [e2]
    obtain ⟨s1, s2⟩ := ih k { r with T := setT T1 a 1 (k : Int) } he in1 (by omega)
    refine ⟨fun j D h => ?_, fun j D h => s2 j D h⟩
    obtain ⟨T', p1, tb1, o⟩ := s1 j D h
    replace o : Out k j (setT T1 a 1 (k : Int)) T' := o
    have w1 := wf4_of h
    have l2 := wfS_lt3 _ _ _ w1
    have row : ∀ y i, y < k → T' y i = setT T1 a 1 (k : Int) y i := fun y i hy => o y i (by omega)
    refine ⟨T', p1, ⟨fun h => by omega, fun h => by omega, fun h => by omega, fun _ => ?_, fun h => by omega, fun h => by omega, fun h => by omega⟩, fun y i hy => ?_⟩
    · rw [hsE]
      refine ⟨by rw [row a 0 (by omega), setT_ne (by omega)]; exact t0, by rw [row a 1 (by omega), setT_get], tbE_keep _ _ _ hsE (fun y i g1 g2 => ?_) tb, tb1⟩
      rw [row y i (by omega)]
      exact (Out.set (T := T1) (a := a) (i := 1) (x := (k : Int))) y i (by omega)
    · rw [o y i (by omega), (Out.set (T := T1) (a := a) (i := 1) (x := (k : Int))) y i (by omega)]
      exact o1 y i (by omega)
  · have e1 : thenE (k, true) r.C (fun j => scS c nv N f j r.C) = (k, true, r.C) := by unfold thenE; rw [if_pos rfl]
    rw [e1]
    refine ⟨fun j D h => by simp at h, fun j D h => ?_⟩
    simp at h
    obtain ⟨rfl, rfl⟩ := h
    exact (x2 k hsE).two
/-- A byte as the part 0, an expression as the part 1. -/
theorem srd_be (hc : ∀ a, sz ≤ a → c a = 0) (he : r.e = 0) (h1 : a ≤ sz) (h2 : sz < a + (f + 1)) {k : Int} {b : Bool} (hp : ptI nv N k (c (a + 1)) = yesI b) (hk : k ≠ 112) (hin : b = true → a + 1 < sz) (ha : a < sz) :
    (∀ j, b = true → scE c nv f (a + 2) = (j, false) → ∃ T', two (rdP c sz nv N f) a 1 101 (two (rdP c sz nv N f) a 0 k (a + 1, r)) = (j, { r with T := T' }) ∧ T' a 0 = ((a + 1 : Nat) : Int) ∧ T' a 1 = ((a + 2 : Nat) : Int) ∧ tbE c nv T' f (a + 2) ∧ Out a j r.T T') ∧
    (∀ j, b = true → scE c nv f (a + 2) = (j, true) → Flt j (two (rdP c sz nv N f) a 1 101 (two (rdP c sz nv N f) a 0 k (a + 1, r)))) ∧
    (b = false → Flt (a + 1) (two (rdP c sz nv N f) a 1 101 (two (rdP c sz nv N f) a 0 k (a + 1, r)))) := by
  have e0 : two (rdP c sz nv N f) a 0 k (a + 1, r) = rdP c sz nv N f k (a + 1) { r with T := setT r.T a 0 ((a + 1 : Nat) : Int) } := rfl
  have e1 := rd_one (c := c) (sz := sz) (f := f) (r := { r with T := setT r.T a 0 ((a + 1 : Nat) : Int) }) he (by omega) hp hk hin
  rw [e0, e1]
  cases b
  · rw [if_neg (by simp)]
    refine ⟨fun _ h => (by cases h), fun _ h => (by cases h), fun _ => ?_⟩
    exact (refR_flt (a := a + 1) (r := { r with T := setT r.T a 0 ((a + 1 : Nat) : Int) }) he).two
  · rw [if_pos rfl]
    have hi := hin rfl
    obtain ⟨x1, x2⟩ := srd_ex (N := N) (nv := nv) (r := { r with T := setT r.T a 0 ((a + 1 : Nat) : Int) }) hc he h1 h2 (m := 1) (x := a + 2) (by omega) (by omega)
    refine ⟨fun j _ h => ?_, fun j _ h => x2 j h, fun h => (by cases h)⟩
    obtain ⟨T1, q1, tb, t0, tr, o1⟩ := x1 j h
    refine ⟨T1, q1, (tr 0 (by omega)).trans setT_get, t0, tb, fun y i hy => ?_⟩
    rw [show T1 y i = setT r.T a 0 ((a + 1 : Nat) : Int) y i from o1 y i hy]
    have l := scE_lt3 _ _ _ h
    exact (Out.set (T := r.T) (a := a) (i := 0)) y i (by omega)
theorem srd_eq (hc : ∀ a, sz ≤ a → c a = 0) (he : r.e = 0) (h1 : a ≤ sz) (h2 : sz < a + (f + 1)) (hl : c a = 61) : SRd c sz nv N (f + 1) a r := by
  obtain ⟨ha, hg⟩ := srd_go (nv := nv) (N := N) hc he h1 h2 (inn := bs [118, 101]) (by omega) (by unfold stI; rw [if_neg (by omega), if_neg (by omega), if_pos hl])
  unfold SRd
  rw [hg, rdL_2']
  have hs : scS c nv N (f + 1) a r.C = if isVar nv (c (a + 1)) = true then thenE (scE c nv f (a + 2)) r.C (fun j => (j, false, r.C)) else (a + 1, true, r.C) := by simp only [scS]; rw [if_neg (by omega), if_neg (by omega), if_pos hl]
  rw [hs]
  obtain ⟨x1, x2, x3⟩ := srd_be (N := N) (nv := nv) (k := 118) (b := isVar nv (c (a + 1))) hc he h1 h2 rfl (by omega) (fun h => isVar_in hc h) ha
  cases hb : isVar nv (c (a + 1))
  · rw [if_neg (by simp)]
    refine ⟨fun j D h => by simp at h, fun j D h => ?_⟩
    simp at h
    obtain ⟨rfl, rfl⟩ := h
    exact x3 hb
  · rw [if_pos rfl]
    obtain ⟨k, b, hsE⟩ : ∃ k b, scE c nv f (a + 2) = (k, b) := ⟨_, _, rfl⟩
    rw [hsE]
    cases b
    · have e1 : thenE (k, false) r.C (fun j => (j, false, r.C)) = (k, false, r.C) := by unfold thenE; rw [if_neg (by simp)]
      rw [e1]
      refine ⟨fun j D h => ?_, fun j D h => by simp at h⟩
      simp at h
      obtain ⟨rfl, rfl⟩ := h
      obtain ⟨T', q, t0, t1, tb, o⟩ := x1 k hb hsE
      exact ⟨T', q, ⟨fun h => by omega, fun _ => ⟨t0, t1, tb⟩, fun h => by omega, fun h => by omega, fun h => by omega, fun h => by omega, fun h => by omega⟩, o⟩
    · have e1 : thenE (k, true) r.C (fun j => (j, false, r.C)) = (k, true, r.C) := by unfold thenE; rw [if_pos rfl]
      rw [e1]
      refine ⟨fun j D h => by simp at h, fun j D h => ?_⟩
      simp at h
      obtain ⟨rfl, rfl⟩ := h
      exact x2 k hb hsE
theorem srd_o (hc : ∀ a, sz ≤ a → c a = 0) (he : r.e = 0) (h1 : a ≤ sz) (h2 : sz < a + (f + 1)) (hl : c a = 111) : SRd c sz nv N (f + 1) a r := by
  obtain ⟨ha, hg⟩ := srd_go (nv := nv) (N := N) hc he h1 h2 (inn := bs [108, 101]) (by omega) (by unfold stI; rw [if_neg (by omega), if_neg (by omega), if_neg (by omega), if_neg (by omega), if_neg (by omega), if_neg (by omega), if_pos hl])
  unfold SRd
  rw [hg, rdL_2']
  have hs : scS c nv N (f + 1) a r.C = if isDB (c (a + 1)) N = true then thenE (scE c nv f (a + 2)) r.C (fun j => (j, false, r.C)) else (a + 1, true, r.C) := by simp only [scS]; rw [if_neg (by omega), if_neg (by omega), if_neg (by omega), if_neg (by omega), if_neg (by omega), if_neg (by omega), if_pos hl]
  rw [hs]
  obtain ⟨x1, x2, x3⟩ := srd_be (N := N) (nv := nv) (k := 108) (b := isDB (c (a + 1)) N) hc he h1 h2 rfl (by omega) (fun h => isDB_in hc h) ha
  cases hb : isDB (c (a + 1)) N
  · rw [if_neg (by simp)]
    refine ⟨fun j D h => by simp at h, fun j D h => ?_⟩
    simp at h
    obtain ⟨rfl, rfl⟩ := h
    exact x3 hb
  · rw [if_pos rfl]
    obtain ⟨k, b, hsE⟩ : ∃ k b, scE c nv f (a + 2) = (k, b) := ⟨_, _, rfl⟩
    rw [hsE]
    cases b
    · have e1 : thenE (k, false) r.C (fun j => (j, false, r.C)) = (k, false, r.C) := by unfold thenE; rw [if_neg (by simp)]
      rw [e1]
      refine ⟨fun j D h => ?_, fun j D h => by simp at h⟩
      simp at h
      obtain ⟨rfl, rfl⟩ := h
      obtain ⟨T', q, t0, t1, tb, o⟩ := x1 k hb hsE
      exact ⟨T', q, ⟨fun h => by omega, fun h => by omega, fun h => by omega, fun h => by omega, fun h => by omega, fun _ => ⟨t0, t1, tb⟩, fun h => by omega⟩, o⟩
    · have e1 : thenE (k, true) r.C (fun j => (j, false, r.C)) = (k, true, r.C) := by unfold thenE; rw [if_pos rfl]
      rw [e1]
      refine ⟨fun j D h => by simp at h, fun j D h => ?_⟩
      simp at h
      obtain ⟨rfl, rfl⟩ := h
      exact x2 k hb hsE
theorem srd_r (hc : ∀ a, sz ≤ a → c a = 0) (he : r.e = 0) (h1 : a ≤ sz) (h2 : sz < a + (f + 1)) (hl : c a = 114) : SRd c sz nv N (f + 1) a r := by
  obtain ⟨ha, hg⟩ := srd_go (nv := nv) (N := N) hc he h1 h2 (inn := bs [108, 118]) (by omega) (by unfold stI; rw [if_neg (by omega), if_neg (by omega), if_neg (by omega), if_neg (by omega), if_neg (by omega), if_pos hl])
  unfold SRd
  rw [hg, rdL_2']
  have hs : scS c nv N (f + 1) a r.C = if isDB (c (a + 1)) N = true then (if isVar nv (c (a + 2)) = true then (a + 3, false, r.C) else (a + 2, true, r.C)) else (a + 1, true, r.C) := by simp only [scS]; rw [if_neg (by omega), if_neg (by omega), if_neg (by omega), if_neg (by omega), if_neg (by omega), if_pos hl]
  rw [hs]
  have e0 : two (rdP c sz nv N f) a 0 ((108 : UInt8).toNat : Int) (a + 1, r) = rdP c sz nv N f 108 (a + 1) { r with T := setT r.T a 0 ((a + 1 : Nat) : Int) } := rfl
  have e1 := rd_one (c := c) (sz := sz) (f := f) (nv := nv) (N := N) (k := 108) (b := isDB (c (a + 1)) N) (a := a + 1) (r := { r with T := setT r.T a 0 ((a + 1 : Nat) : Int) }) he (by omega) rfl (by omega) (fun h => isDB_in hc h)
  rw [e0, e1]
  cases hb : isDB (c (a + 1)) N
  · rw [if_neg (by simp), if_neg (by simp)]
    refine ⟨fun j D h => by simp at h, fun j D h => ?_⟩
    simp at h
    obtain ⟨rfl, rfl⟩ := h
    exact (refR_flt (a := a + 1) (r := { r with T := setT r.T a 0 ((a + 1 : Nat) : Int) }) he).two
  · rw [if_pos rfl, if_pos rfl]
    have hi := isDB_in hc hb
    have e2 : two (rdP c sz nv N f) a 1 ((118 : UInt8).toNat : Int) (a + 1 + 1, { r with T := setT r.T a 0 ((a + 1 : Nat) : Int) }) = rdP c sz nv N f 118 (a + 2) { r with T := setT (setT r.T a 0 ((a + 1 : Nat) : Int)) a 1 ((a + 2 : Nat) : Int) } := rfl
    have e3 := rd_one (c := c) (sz := sz) (f := f) (nv := nv) (N := N) (k := 118) (b := isVar nv (c (a + 2))) (a := a + 2) (r := { r with T := setT (setT r.T a 0 ((a + 1 : Nat) : Int)) a 1 ((a + 2 : Nat) : Int) }) he (by omega) rfl (by omega) (fun h => isVar_in hc h)
    rw [e2, e3]
    cases hv : isVar nv (c (a + 2))
    · rw [if_neg (by simp), if_neg (by simp)]
      refine ⟨fun j D h => by simp at h, fun j D h => ?_⟩
      simp at h
      obtain ⟨rfl, rfl⟩ := h
      exact refR_flt (a := a + 2) (r := { r with T := setT (setT r.T a 0 ((a + 1 : Nat) : Int)) a 1 ((a + 2 : Nat) : Int) }) he
    · rw [if_pos rfl, if_pos rfl]
      refine ⟨fun j D h => ?_, fun j D h => by simp at h⟩
      simp at h
      obtain ⟨rfl, rfl⟩ := h
      refine ⟨_, rfl, ⟨fun h => by omega, fun h => by omega, fun h => by omega, fun h => by omega, fun _ => ⟨(setT_ne (by omega)).trans setT_get, setT_get⟩, fun h => by omega, fun h => by omega⟩, fun y i hy => ?_⟩
      show setT (setT r.T a 0 ((a + 1 : Nat) : Int)) a 1 ((a + 2 : Nat) : Int) y i = r.T y i
      unfold setT; rw [if_neg (by omega), if_neg (by omega)]
theorem srd_c (hc : ∀ a, sz ≤ a → c a = 0) (he : r.e = 0) (h1 : a ≤ sz) (h2 : sz < a + (f + 1)) (hl : c a = 99) : SRd c sz nv N (f + 1) a r := by
  obtain ⟨ha, hg⟩ := srd_go (nv := nv) (N := N) hc he h1 h2 (inn := bs [112]) (by omega) (by unfold stI; rw [if_neg (by omega), if_neg (by omega), if_neg (by omega), if_neg (by omega), if_neg (by omega), if_neg (by omega), if_neg (by omega), if_pos hl])
  unfold SRd
  rw [hg, rdL_1']
  have hs : scS c nv N (f + 1) a r.C = if isDB (c (a + 1)) 4 = true then (a + 2, false, r.C ++ [a + 1]) else (a + 1, true, r.C ++ [a + 1]) := by simp only [scS]; rw [if_neg (by omega), if_neg (by omega), if_neg (by omega), if_neg (by omega), if_neg (by omega), if_neg (by omega), if_neg (by omega), if_pos hl]
  rw [hs]
  have e0 : two (rdP c sz nv N f) a 0 ((112 : UInt8).toNat : Int) (a + 1, r) = rdP c sz nv N f 112 (a + 1) { r with T := setT r.T a 0 ((a + 1 : Nat) : Int) } := rfl
  have e1 := rd_call (c := c) (sz := sz) (f := f) (nv := nv) (N := N) (b := isDB (c (a + 1)) 4) (a := a + 1) (r := { r with T := setT r.T a 0 ((a + 1 : Nat) : Int) }) he (by omega) rfl (fun h => isDB_in hc h)
  rw [e0, e1]
  cases hb : isDB (c (a + 1)) 4
  · rw [if_neg (by simp), if_neg (by simp)]
    refine ⟨fun j D h => by simp at h, fun j D h => ?_⟩
    simp at h
    obtain ⟨rfl, rfl⟩ := h
    exact refR_flt (a := a + 1) (r := { r with T := setT r.T a 0 ((a + 1 : Nat) : Int) }) he
  · rw [if_pos rfl, if_pos rfl]
    refine ⟨fun j D h => ?_, fun j D h => by simp at h⟩
    simp at h
    obtain ⟨rfl, rfl⟩ := h
    refine ⟨_, rfl, ⟨fun h => by omega, fun h => by omega, fun h => by omega, fun h => by omega, fun h => by omega, fun h => by omega, fun _ => setT_get⟩, fun y i hy => ?_⟩
    show setT r.T a 0 ((a + 1 : Nat) : Int) y i = r.T y i
    unfold setT; rw [if_neg (by omega)]
theorem srd_none (hc : ∀ a, sz ≤ a → c a = 0) (he : r.e = 0) (h1 : a ≤ sz) (h2 : sz < a + (f + 1)) (hl : ¬ (c a = 46 ∨ c a = 120 ∨ c a = 44 ∨ c a = 116 ∨ c a = 61 ∨ c a = 105 ∨ c a = 119 ∨ c a = 114 ∨ c a = 111 ∨ c a = 99)) : SRd c sz nv N (f + 1) a r := by
  have _ := hc
  have _ := h1
  have _ := h2
  have hs : scS c nv N (f + 1) a r.C = (a, true, r.C) := by
    simp only [scS]
    rw [if_neg (by omega), if_neg (by omega), if_neg (by omega), if_neg (by omega), if_neg (by omega), if_neg (by omega), if_neg (by omega), if_neg (by omega)]
  have hp : ptI nv N 115 (c a) = none := by
    show stI (c a) = none
    unfold stI
    rw [if_neg (by omega), if_neg (by omega), if_neg (by omega), if_neg (by omega), if_neg (by omega), if_neg (by omega), if_neg (by omega), if_neg (by omega)]
  unfold SRd
  rw [hs]
  refine ⟨fun j D h => by simp at h, fun j D h => ?_⟩
  simp at h
  obtain ⟨rfl, rfl⟩ := h
  by_cases ha : a < sz
  · rw [rdP_bad he ha hp]; exact refR_flt he
  · rw [rdP_end he ha]; exact refR_flt he
end letters

theorem rdS_ok (hc : ∀ a, sz ≤ a → c a = 0) : ∀ (f a : Nat) (r : RdS), r.e = 0 → a ≤ sz → sz < a + f → SRd c sz nv N f a r := by
  intro f
  induction f with
  | zero => intro a r _ h1 h2; omega
  | succ f ih =>
    intro a r he h1 h2
    by_cases hl : c a = 46 ∨ c a = 120 ∨ c a = 44 ∨ c a = 116 ∨ c a = 61 ∨ c a = 105 ∨ c a = 119 ∨ c a = 114 ∨ c a = 111 ∨ c a = 99
    · rcases hl with hl | hl | hl | hl | hl | hl | hl | hl | hl | hl
      · exact srd_plain hc he h1 h2 (Or.inl hl)
      · exact srd_plain hc he h1 h2 (Or.inr hl)
      · exact srd_seq hc he h1 h2 ih (Or.inl hl)
      · exact srd_seq hc he h1 h2 ih (Or.inr hl)
      · exact srd_eq hc he h1 h2 hl
      · exact srd_i hc he h1 h2 ih hl
      · exact srd_w hc he h1 h2 ih hl
      · exact srd_r hc he h1 h2 hl
      · exact srd_o hc he h1 h2 hl
      · exact srd_c hc he h1 h2 hl
    · exact srd_none hc he h1 h2 hl
end

end Go.Proofs.YtfcflnnleadpkaaGreat
