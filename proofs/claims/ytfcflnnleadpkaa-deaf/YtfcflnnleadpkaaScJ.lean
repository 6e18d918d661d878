import Derived.Test.YtfcflnnleadpkaaMaJ
import Derived.Deep.RegionLaw
import Derived.Deep.AppendLies
import Derived.OwnWalk
namespace Go.Proofs.Ytfcflnnleadpkaa
open Go.RowKit

def cells (C : List Nat) : List Value := C.map (fun (k : Nat) => Value.int .i64 (k : Int))
/-- A Scan in memory, with the list of its calls, which lies in memory of its own, from B on. -/
structure ScnC (w : World) (B b : Nat) (s : ByteArray) (i : Nat) (bad : Bool) (N nv : Nat) (C : List Nat) (v : Value) : Prop where
  sc : Scn w b s i bad N nv v
  own : w.ownsRow B 3 1 v C.length (cells C)
/-- All blocks but b and r are as they were. -/
structure Kp (b : Nat) (r : Option Nat) (w w' : World) : Prop where
  os : w'.os = w.os
  tape : w'.tape = w.tape
  output : w'.output = w.output
  size : w.heap.size ≤ w'.heap.size
  block : ∀ k, k < w.heap.size → k ≠ b → some k ≠ r → w'.heap[k]? = w.heap[k]?
/-- The new row is the old one, or new. -/
def NewOr (w : World) (v v' : Value) : Prop := v'.ownBlock = v.ownBlock ∨ ∀ k, v'.ownBlock = some k → w.heap.size ≤ k
/-- What the reader of a statement leaves. -/
def SSt (w : World) (B b : Nat) (s : ByteArray) (N nv : Nat) (v : Value) (r : Nat × Bool × List Nat) (w' : World) : Prop :=
  ∃ v', ScnC w' B b s r.1 r.2.1 N nv r.2.2 v' ∧ Kp b v.ownBlock w w' ∧ NewOr w v v'

variable {w w' w'' : World} {B b : Nat} {s : ByteArray} {i : Nat} {bad : Bool} {N nv : Nat} {C : List Nat} {v v' : Value}

theorem Kp.refl (b : Nat) (r : Option Nat) (w : World) : Kp b r w w := ⟨rfl, rfl, rfl, Nat.le_refl _, fun _ _ _ _ => rfl⟩
theorem Kp.trans {r r' : Option Nat} (h : Kp b r w w') (k : Kp b r' w' w'') (hr : r' = r ∨ ∀ k, r' = some k → w.heap.size ≤ k) : Kp b r w w'' :=
  ⟨k.os.trans h.os, k.tape.trans h.tape, k.output.trans h.output, Nat.le_trans h.size k.size, fun j hj h1 h2 => by
    rw [k.block j (Nat.lt_of_lt_of_le hj h.size) h1 ?_, h.block j hj h1 h2]
    rcases hr with e | e
    · rw [e]; exact h2
    · intro e'; have := e j e'.symm; omega⟩
theorem Kp.below {r : Option Nat} (h : Kp b r w w') (hB : B ≤ w.heap.size) (hb : B ≤ b) (hr : ∀ k, r = some k → B ≤ k) : Below B w w' :=
  ⟨h.os, h.tape, h.output, h.size, fun k hk => h.block k (by omega) (by omega) (fun e => by have := hr k e.symm; omega)⟩
theorem SSt.step {r' : Nat × Bool × List Nat} (h2 : Kp b v.ownBlock w w') (h3 : NewOr w v v') (k : SSt w' B b s N nv v' r' w'') : SSt w B b s N nv v r' w'' := by
  obtain ⟨v2, k1, k2, k3⟩ := k
  refine ⟨v2, k1, h2.trans k2 h3, ?_⟩
  rcases k3 with e | e
  · rcases h3 with e' | e'
    · exact Or.inl (e.trans e')
    · exact Or.inr (fun k hk => e' k (e ▸ hk))
  · exact Or.inr (fun k hk => Nat.le_trans h2.size (e k hk))
theorem ScnC.ne (h : ScnC w B b s i bad N nv C v) : v.ownBlock ≠ some b := by
  intro e
  rcases h.own.2 with ⟨rfl, _⟩ | ⟨g, cap, cur, rfl, _, hg, _⟩
  · simp [Value.ownBlock] at e
  · simp only [Value.ownBlock, Option.some.injEq] at e
    have h2 : w.heap[b]? = _ := h.sc
    rw [e, h2] at hg
    simp at hg
theorem Kp.setRow (w : World) (b : Nat) (r : Option Nat) (c : Array Value) (q : Nat) : Kp b r w ((w.setRow b c).drewN q) :=
  ⟨rfl, rfl, rfl, by simp, fun k _ h _ => setRow_other w b k c h⟩
/-- A reader that only turns the Scan. -/
theorem ScTo.sst {r : Nat × Bool} (h : ScTo w b s N nv v r w') (hc : ScnC w B b s i bad N nv C v) : SSt w B b s N nv v (r.1, r.2, C) w' := by
  obtain ⟨q, rfl⟩ := h
  refine ⟨v, ⟨hc.sc.row r.1 r.2 v, ?_⟩, Kp.setRow w b _ _ q, Or.inl rfl⟩
  have hg : w.grownBy ((w.setRow b (scC s r.1 r.2 N nv v)).drewN q) (some b) := ⟨rfl, rfl, rfl, by simp, fun k _ hk => setRow_other w b k _ (fun e => hk (by rw [e]))⟩
  refine hc.own.kept hg ?_
  exact Or.inr hc.ne

/-- The reader of statements, with fuel f. -/
def StmtOk (B b : Nat) (s : ByteArray) (N nv f : Nat) : Prop := ∀ (w : World) (i : Nat) (C : List Nat) (v : Value), ScnC w B b s i false N nv C v → s.size < i + f → i ≤ s.size → B ≤ w.heap.size → C.length ≤ i →
    Calls Try.prog 44 #[.pointer (some ⟨b, 0, none⟩)] w fun e w' => e = .returned (.tuple #[]) ∧ SSt w B b s N nv v (scS (bt s) nv N f i C) w'

set_option maxHeartbeats 1000000 in
set_option maxRecDepth 10000 in
theorem rest_plain (d : Int) (hd : d = 46 ∨ d = 120) (h : ScnC w B b s i false N nv C v) :
    Calls Try.prog 62 #[.pointer (some ⟨b, 0, none⟩), .int .u8 d] w fun e w' => e = .returned (.tuple #[]) ∧ SSt w B b s N nv v (i, false, C) w' := by
  have k2 := h.sc.c2
  have HR := hide (show SSt w B b s N nv v (i, false, C) w from ⟨v, h, Kp.refl _ _ _, Or.inl rfl⟩)
  clear h
  rcases hd with rfl | rfl
  · go_enter Try.func62, Try.ntmps62
    go_wp2_with fail
    go_end0
    exact ⟨rfl, unhide HR⟩
  · go_enter Try.func62, Try.ntmps62
    go_wp2_with fail
    go_end0
    exact ⟨rfl, unhide HR⟩

theorem info_int : (Try.prog.info? 3).map (fun i => (i.zero, i.size, i.bytes)) = some (some (.int .i64 0), 1, 8) := by kernel_rfl

theorem Scn.set5 (h : Scn w b s i bad N nv v) (x : Value) : w.setCell ⟨b, 5, none⟩ x = w.setRow b (scC s i bad N nv x) := by
  rw [setCell_eq_setRow w b _ _ _ _ _ h]; rfl
theorem cells_snoc (C : List Nat) (i : Nat) : cells C ++ [.int .i64 (i : Int)] = cells (C ++ [i]) := by simp [cells]
/-- One call more in the list. -/
theorem ScnC.push {w1 : World} {gg cap : Nat} (h : ScnC w B b s i false N nv C v) (hbl : b < w.heap.size)
    (hown1 : w1.ownsRow B 3 1 (.slice (some ⟨gg, 0, none⟩) (C.length + 1) cap) (C.length + 1) (cells C ++ [.int .i64 (i : Int)]))
    (hgrow : (w.alloc (.cells #[.int .i64 (i : Int)] 3)).drew.grownBy w1 v.ownBlock) (hat : v.ownBlock = some gg ∨ gg = w.heap.size + 1) :
    SSt w B b s N nv v (i, false, C ++ [i]) (w1.setCell ⟨b, 5, none⟩ (.slice (some ⟨gg, 0, none⟩) (C.length + 1) cap)) := by
  have hsz : (w.alloc (.cells #[.int .i64 (i : Int)] 3)).drew.heap.size = w.heap.size + 1 := by simp
  have hb1 : ∀ k, k < w.heap.size → some k ≠ v.ownBlock → w1.heap[k]? = w.heap[k]? := fun k hk hne =>
    (hgrow.block k (by omega) hne).trans (Below.heap_alloc w _ k hk)
  have hs1 : Scn w1 b s i false N nv v := (hb1 b hbl (Ne.symm h.ne)).trans h.sc
  have hgb : gg ≠ b := by
    intro e
    rcases hown1.2 with ⟨e1, _⟩ | ⟨g, cp, cur, e1, _, hg, _⟩
    · simp at e1
    · simp at e1
      have h2 : w1.heap[b]? = _ := hs1
      rw [← e1.1, e, h2] at hg
      simp at hg
  rw [hs1.set5]
  have hg2 : w1.grownBy (w1.setRow b (scC s i false N nv (.slice (some ⟨gg, 0, none⟩) (C.length + 1) cap))) (some b) := ⟨rfl, rfl, rfl, by simp, fun k _ hk => setRow_other w1 b k _ (fun e => hk (by rw [e]))⟩
  refine ⟨_, ⟨hs1.row i false _, ?_⟩, ?_, ?_⟩
  · have h3 := hown1.kept hg2 (Or.inr (by simp [Value.ownBlock, hgb]))
    rw [cells_snoc] at h3
    simpa using h3
  · exact ⟨hgrow.os, hgrow.tape, hgrow.output, by have := hgrow.size; simp at this ⊢; omega, fun k hk h1 h2 => (setRow_other w1 b k _ h1).trans (hb1 k hk h2)⟩
  · rcases hat with e | e
    · exact Or.inl (by rw [e]; rfl)
    · exact Or.inr (fun k hk => by simp [Value.ownBlock] at hk; omega)
set_option maxHeartbeats 1000000 in
set_option maxRecDepth 10000 in
theorem rest_c (hB : B ≤ w.heap.size) (hi : i ≤ 400) (hC : C.length ≤ 400) (h : ScnC w B b s i false N nv C v) :
    Calls Try.prog 62 #[.pointer (some ⟨b, 0, none⟩), .int .u8 99] w fun e w' => e = .returned (.tuple #[]) ∧ SSt w B b s N nv v ((dgS (bt s) 4 i).1, (dgS (bt s) 4 i).2, C ++ [i]) w' := by
  have k5 := h.sc.c5
  have k1 := h.sc.c1
  have kz := h.sc.fz 5
  have hne := h.ne
  have HH := hide h
  have hbl : b < w.heap.size := World.block_lt_of_cell? w _ k1
  have hca := fun o => (World.cell?_of_block (w := w) (a := ⟨b, 5, none⟩) (Below.heap_alloc w o b hbl)).trans k5
  have hca1 := fun o => (World.cell?_of_block (w := w) (a := ⟨b, 1, none⟩) (Below.heap_alloc w o b hbl)).trans k1
  have hfa := fun o => (World.frozen?_of_block (w := w) (a := ⟨b, 5, none⟩) (Below.heap_alloc w o b hbl)).trans kz
  obtain ⟨i0, hi0, hz0, hz1, hz2⟩ := info_parts info_int
  have HI := hide (And.intro hi0 (And.intro hz0 (And.intro hz1 hz2)))
  clear hi0 hz0 hz1 hz2 h
  go_enter Try.func62, Try.ntmps62
  go_wp2_with fail
  go_region_law ((refine step_append_lies _ (by rfl) _ _ _ (by rfl) B 3 i0 _ 1 8 Try.underlying46 (unhide HI).1 (unhide HI).2.1 (unhide HI).2.2.1 (unhide HI).2.2.2 rfl (by omega) v C.length (cells C) (by rfl) (((unhide HH).own.alloc _).drew) ⟨w.heap.size, 0, none⟩ 1 1 [.int .i64 (i : Int)] (by rfl) (by rfl) (World.news_of_block (cs := #[.int .i64 (i : Int)]) (t := 3) (fr := (0, 0)) (heap_alloc_new w _)) (by simp [Value.oneCell']) (by omega) (by unfold maxLen; omega) (by omega) (by simp; omega) (w.heap.size + 1) (by simp) ?_; intro gg cap w1 hown1 hgrow hat hlt; have hc5 := (hgrow.cell_far ⟨b, 5, none⟩ (by simp; omega) (Ne.symm hne)).trans (hca _); have hf5 := (hgrow.frozen_far ⟨b, 5, none⟩ (by simp; omega) (Ne.symm hne)).trans (hfa _)))
  all_goals
    have HT := hide ((unhide HH).push hbl hown1 hgrow hat)
    generalize w1.setCell ⟨b, 5, none⟩ (.slice (some ⟨gg, 0, none⟩) (C.length + 1) cap) = w2 at *
    obtain ⟨v2, hv2, hkp, hno⟩ := unhide HT
    have HV2 := hide hv2
    have HS := hide (fun (r' : Nat × Bool × List Nat) (w'' : World) (k : SSt w2 B b s N nv v2 r' w'') => SSt.step hkp hno k)
    clear hv2 hkp hno HT hown1 hgrow hat hc5 hf5 hlt k5 k1 kz hca hca1 hfa
    go_wp2_with fail
    refine (scanDigit_any 4 (unhide HV2).sc hi).mono ?_
    rintro e w3 ⟨rfl, hto⟩
    have HR := hide (unhide HS _ _ (hto.sst (unhide HV2)))
    have hsc := (hto.scn (unhide HV2).sc)
    have k2 := hsc.c2
    clear hto hsc
    cases hr : (dgS (bt s) 4 i).2
    · rw [hr] at k2
      go_wp2_with fail
      go_end0
      exact ⟨rfl, unhide HR⟩
    · rw [hr] at k2
      go_wp2_with fail
      go_end0
      exact ⟨rfl, unhide HR⟩

end Go.Proofs.Ytfcflnnleadpkaa
