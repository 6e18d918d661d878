import Derived.Test.YtfcflnnleadpkaaBa
namespace Go.Proofs.Ytfcflnnleadpkaa
open Go.RowKit

/-- The byte at a place, as a number. -/
def bt (s : ByteArray) (k : Nat) : Int := if h : k < s.size then (s[k].toNat : Int) else 0
theorem bt_eq (s : ByteArray) (k : Nat) (h : k < s.size) : (s[k].toNat : Int) = bt s k := by simp [bt, h]
theorem bt_bd (s : ByteArray) (k : Nat) : 0 ≤ bt s k ∧ bt s k ≤ 255 := by
  unfold bt; split
  · rename_i h
    have := (s[k]).toNat_lt
    omega
  · omega
/-- Is the byte c a digit below lim? -/
def isDB (c lim : Int) : Bool := decide (48 ≤ c) && decide (c ≤ 57) && decide (c - 48 < lim)
theorem isDB_iff (c lim : Int) : isDB c lim = true ↔ 48 ≤ c ∧ c ≤ 57 ∧ c - 48 < lim := by simp [isDB, and_assoc]
theorem isDB_no {c lim : Int} (h : ¬ (48 ≤ c ∧ c ≤ 57 ∧ c - 48 < lim)) : isDB c lim = false := by
  cases e : isDB c lim with
  | false => rfl
  | true => exact absurd ((isDB_iff c lim).1 e) h
theorem isDB_yes {c lim : Int} (h : 48 ≤ c ∧ c ≤ 57 ∧ c - 48 < lim) : isDB c lim = true := (isDB_iff c lim).2 h

def digB (s : ByteArray) (k : Nat) (lim : Int) : Bool := decide (k < s.size) && isDB (bt s k) lim
def digV (s : ByteArray) (k : Nat) (lim : Int) : Int := if digB s k lim = true then bt s k - 48 else 0
theorem digB_yes {s : ByteArray} {k : Nat} {lim : Int} (h : k < s.size) : digB s k lim = isDB (bt s k) lim := by simp [digB, h]
theorem digB_no {s : ByteArray} {k : Nat} {lim : Int} (h : ¬ k < s.size) : digB s k lim = false := by simp [digB, h]

end Go.Proofs.Ytfcflnnleadpkaa
