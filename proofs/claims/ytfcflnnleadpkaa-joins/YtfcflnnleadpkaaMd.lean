import Derived.Test.YtfcflnnleadpkaaDb
import Derived.Test.YtfcflnnleadpkaaMc
namespace Go.Proofs.Ytfcflnnleadpkaa

/-- Levels that are well ordered. -/
structure Lattice (n : Nat) (R : Nat → Nat → Bool) : Prop where
  refl : ∀ a, a < n → R a a = true
  trans : Trans n R
  anti : ∀ a b, a < n → b < n → R a b = true → R b a = true → a = b
  join : ∀ a b, a < n → b < n → ∃ c, c < n ∧ Hm.lub R n a b c = true

theorem cl_lattice (s : ByteArray) (n : Nat) (h : Hm.wellR (cl s n) n = true) : Lattice n (cl s n) := by
  rw [Hm.wellR_iff] at h
  refine ⟨fun a ha => wf_refl n _ n a ha, wf_trans n _, fun a b ha hb h1 h2 => ?_, fun a b ha hb => ((Hm.wellRow_iff _ _ _ _).1 (h a b ha hb)).2.1⟩
  have := ((Hm.wellRow_iff _ _ _ _).1 (h a b ha hb)).1
  by_cases e : a = b
  · exact e
  · exact absurd ⟨e, h1, h2⟩ this

variable {n : Nat} {R : Nat → Nat → Bool}

theorem Lattice.lub_uniq (L : Lattice n R) {a b c d : Nat} (hc : c < n) (hd : d < n) (h1 : Hm.lub R n a b c = true) (h2 : Hm.lub R n a b d = true) : c = d := by
  rw [Hm.lub_iff] at h1 h2
  exact L.anti c d hc hd (h1.2.2 d hd h2.1 h2.2.1) (h2.2.2 c hc h1.1 h1.2.1)
/-- The join, as a number. -/
theorem Lattice.joinN (L : Lattice n R) {a b : Nat} (ha : a < n) (hb : b < n) : ∃ c : Nat, c < n ∧ Hm.joinI R n a b = (c : Int) ∧ Hm.lub R n a b c = true := by
  obtain ⟨c, hc, h⟩ := L.join a b ha hb
  have hne := (Hm.joinI_ok_iff R n a b).2 ⟨c, hc, h⟩
  rcases Hm.firstB_spec (Hm.lub R n a b) n 0 with ⟨d, _, h2, h3, h4⟩ | ⟨h1, _⟩
  · exact ⟨d, by omega, h4, h3⟩
  · exact absurd h1 hne
theorem Lattice.join_of (L : Lattice n R) {a b c : Nat} (ha : a < n) (hb : b < n) (hc : c < n) (h : Hm.lub R n a b c = true) : Hm.joinI R n a b = (c : Int) := by
  obtain ⟨d, hd, h1, h2⟩ := L.joinN ha hb
  rw [h1, L.lub_uniq hd hc h2 h]

/-- All that Bounds asks of three levels. -/
theorem Lattice.bounds (L : Lattice n R) {a b c : Nat} (ha : a < n) (hb : b < n) (hc : c < n) :
    ∃ ab bc x : Nat, ab < n ∧ bc < n ∧ x < n ∧ Hm.joinI R n a b = (ab : Int) ∧ Hm.joinI R n b a = (ab : Int) ∧ Hm.joinI R n a a = (a : Int) ∧ Hm.joinI R n b c = (bc : Int) ∧
      Hm.joinI R n ab c = (x : Int) ∧ Hm.joinI R n a bc = (x : Int) ∧ Hm.joinI R n a ab = (ab : Int) ∧ R a ab = true ∧ R b ab = true := by
  obtain ⟨ab, hab, e1, l1⟩ := L.joinN ha hb
  obtain ⟨bc, hbc, e2, l2⟩ := L.joinN hb hc
  obtain ⟨x, hx, e3, l3⟩ := L.joinN hab hc
  have i1 := (Hm.lub_iff _ _ _ _ _).1 l1
  have i2 := (Hm.lub_iff _ _ _ _ _).1 l2
  have i3 := (Hm.lub_iff _ _ _ _ _).1 l3
  refine ⟨ab, bc, x, hab, hbc, hx, e1, L.join_of hb ha hab (Hm.lub_symm _ _ _ _ _ l1), L.join_of ha ha ha ?_, e2, e3, L.join_of ha hbc hx ?_, L.join_of ha hab hab ?_, i1.1, i1.2.1⟩
  · exact (Hm.lub_iff _ _ _ _ _).2 ⟨L.refl a ha, L.refl a ha, fun d _ h _ => h⟩
  · refine (Hm.lub_iff _ _ _ _ _).2 ⟨L.trans a ab x ha hab hx i1.1 i3.1, i2.2.2 x hx (L.trans b ab x hb hab hx i1.2.1 i3.1) i3.2.1, fun d hd h1 h2 => ?_⟩
    exact i3.2.2 d hd (i1.2.2 d hd h1 (L.trans b bc d hb hbc hd i2.1 h2)) (L.trans c bc d hc hbc hd i2.2.1 h2)
  · exact (Hm.lub_iff _ _ _ _ _).2 ⟨i1.1, L.refl ab hab, fun d _ _ h => h⟩

end Go.Proofs.Ytfcflnnleadpkaa
