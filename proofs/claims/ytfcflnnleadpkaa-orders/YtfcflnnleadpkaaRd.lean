import Derived.Test.YtfcflnnleadpkaaRc
import Derived.Test.YtfcflnnleadpkaaDb
namespace Go.Proofs.Ytfcflnnleadpkaa
open Go.RowKit

def WrittenPost (s : ByteArray) (e : Ending) : Prop :=
  (∃ (k : Nat) (x : Int), BadAt s k ∧ e = .returned (.tuple #[.int .i64 x, .int .i64 k, .bool false])) ∨
  (∃ n : Nat, GoodOrd s n ∧ e = .returned (.tuple #[.int .i64 n, .int .i64 s.size, .bool true]))

theorem FirstOk_of (s : ByteArray) (h0 : 0 < s.size) (h1 : 49 ≤ bt s 0) (h2 : bt s 0 ≤ 56) : ∃ n : Nat, bt s 0 - 48 = (n : Int) ∧ FirstOk s n := by
  refine ⟨(bt s 0 - 48).toNat, by omega, ?_⟩
  have hd : digB s 0 9 = true := by rw [digB_yes h0]; exact isDB_yes ⟨by omega, by omega, by omega⟩
  exact ⟨hd, by unfold digV; rw [if_pos hd]; omega, by omega, by omega⟩
theorem FirstOk_bd {s : ByteArray} {n : Nat} (h : FirstOk s n) : 0 < s.size ∧ bt s 0 = 48 + (n : Int) := by
  obtain ⟨h1, h2, h3, h4⟩ := h
  obtain ⟨i, g1, g2, g3, g4⟩ := digV_bd (n := 9) h1
  have : digV s 0 ((9 : Nat) : Int) = digV s 0 9 := rfl
  rw [this] at g1
  exact ⟨g4, by omega⟩
theorem dgt_neg {s : ByteArray} {k n : Nat} (hk : k < s.size) (h : digB s k n = false) : dgt (bt s k) n = -1 := by
  rw [digB_yes hk] at h
  unfold dgt; rw [h]; rfl
theorem dgt_pos {s : ByteArray} {k n : Nat} (h : digB s k n = true) : dgt (bt s k) n = digV s k n := by
  unfold digV dgt
  rw [if_pos h]
  unfold digB at h
  simp only [Bool.and_eq_true] at h
  rw [h.2]; rfl

set_option maxHeartbeats 1000000 in
theorem written_bad0 (w : World) (s : ByteArray) (h : ∀ n, ¬ FirstOk s n) :
    Calls Try.prog 33 #[.string s] w fun e w' => WrittenPost s e ∧ w' = w := by
  have HB : Hid (BadAt s 0) := Or.inl ⟨rfl, h⟩
  by_cases h0 : s.size = 0
  · have h0' : ((s.size : Int) == 0) = true := beq_iff_eq.2 (by omega)
    clear h0
    go_enter Try.func33, Try.ntmps33
    go_wp2_with fail
    go_ret3
    exact ⟨Or.inl ⟨0, 0, unhide HB, rfl⟩, rfl⟩
  · have h0' : ((s.size : Int) == 0) = false := beq_eq_false_iff_ne.2 (by omega)
    have hpos : 0 < s.size := by omega
    have hbq := bt_eq s 0 hpos
    have ⟨hb0, hb1⟩ := bt_bd s 0
    by_cases h1 : bt s 0 < 49
    · have h1' : decide (bt s 0 < 49) = true := by simpa using h1
      generalize bt s 0 = c at *
      clear h0
      go_enter Try.func33, Try.ntmps33
      go_wp2_with fail
      go_ret3
      exact ⟨Or.inl ⟨0, 0, unhide HB, rfl⟩, rfl⟩
    · have h1' : decide (bt s 0 < 49) = false := by simp; omega
      have h2 : 56 < bt s 0 := by
        rcases Int.lt_or_le 56 (bt s 0) with hh | hh
        · exact hh
        · obtain ⟨n, _, hn⟩ := FirstOk_of s hpos (by omega) hh
          exact absurd hn (h n)
      have h2' : decide (56 < bt s 0) = true := by simpa using h2
      generalize bt s 0 = c at *
      clear h0
      go_enter Try.func33, Try.ntmps33
      go_wp2_with fail
      go_ret3
      exact ⟨Or.inl ⟨0, 0, unhide HB, rfl⟩, rfl⟩

set_option maxHeartbeats 1000000 in
theorem written_ok (w : World) (s : ByteArray) (n : Nat) (h : FirstOk s n) (hsz : s.size ≤ 65) :
    Calls Try.prog 33 #[.string s] w fun e w' => WrittenPost s e ∧ w' = w := by
  have HO := hide h
  have ⟨hpos, hb⟩ := FirstOk_bd h
  have h1 := h.2.2.1
  have h8 := h.2.2.2
  have hbq := bt_eq s 0 hpos
  rw [hb] at hbq
  have h0' : ((s.size : Int) == 0) = false := beq_eq_false_iff_ne.2 (by omega)
  have h1' : decide (48 + (n : Int) < 49) = false := by simp; omega
  have h2' : decide (56 < 48 + (n : Int)) = false := by simp; omega
  have h3' : 48 + (n : Int) ≤ 56 := by omega
  have HN := hide (show 48 + (n : Int) - 48 = n by omega)
  clear h hb
  go_enter Try.func33, Try.ntmps33
  go_wp2_with fail
  rw [unhide HN]
  go_loop [6] (fun d => ∃ k : Nat, 1 ≤ k ∧ k ≤ s.size ∧ d = .int .i64 (k : Int) ∧ ∀ i, 1 ≤ i → i < k → digB s i n = true) (fun d => s.size - (intOf d).toNat)
  case atStart => exact ⟨1, by omega, by omega, rfl, fun i h1 h2 => by omega⟩
  case round =>
    obtain ⟨k, hk1, hks, rfl, hall⟩ := hrel
    have HA := hide hall
    clear hall
    by_cases hlt : k < s.size
    · have hlt' : (k : Int) < (s.size : Int) := by omega
      have hbk := bt_eq s k hlt
      have ⟨hb0, hb1⟩ := bt_bd s k
      cases hd1 : digB s k n
      · have HBad : Hid (BadAt s k) := Or.inr ⟨n, unhide HO, hk1, by omega, unhide HA, hd1, fun e => absurd e (by omega)⟩
        have HD := hide (dgt_neg hlt hd1)
        generalize bt s k = c at *
        go_wp2_with fail
        refine (digit_any _ _ _ hb0 hb1).mono ?_
        rintro e w' ⟨rfl, rfl⟩
        rw [unhide HD]
        go_wp2_with fail
        go_ret3
        exact ⟨Or.inl ⟨k, 0, unhide HBad, rfl⟩, rfl⟩
      · obtain ⟨i, hv1, hi, -, -⟩ := digV_bd hd1
        have HD := hide (show dgt (bt s k) n = (i : Int) by rw [dgt_pos hd1, hv1])
        have hii : decide ((i : Int) < 0) = false := by simp
        generalize bt s k = c at *
        go_wp2_with fail
        refine (digit_any _ _ _ hb0 hb1).mono ?_
        rintro e w' ⟨rfl, rfl⟩
        rw [unhide HD]
        go_wp2_with fail
        go_round
        case rel => exact ⟨k + 1, by omega, by omega, by go_num, fun x h1 h2 => by
          by_cases e : x = k
          · rw [e]; exact hd1
          · exact unhide HA x h1 (by omega)⟩
        case measure => simp [intOf]; omega
    · have HKS := hide (show k = s.size by omega)
      by_cases hodd : s.size % 2 = 1
      · have HGood : Hid (GoodOrd s n) := ⟨unhide HO, hodd, fun i h1 h2 => unhide HA i h1 (by omega)⟩
        have ho' : ((s.size : Int) % 2 == 1) = true := by simp; omega
        clear hodd
        go_wp2_with fail
        go_ret3
        exact ⟨Or.inr ⟨n, unhide HGood, rfl⟩, rfl⟩
      · have HBad : Hid (BadAt s s.size) := Or.inr ⟨n, unhide HO, by omega, by omega, fun i h1 h2 => unhide HA i h1 (by omega), digB_no (by omega), fun _ => by omega⟩
        have ho' : ((s.size : Int) % 2 == 1) = false := by simp; omega
        clear hodd
        go_wp2_with fail
        go_ret3
        exact ⟨Or.inl ⟨s.size, n, unhide HBad, rfl⟩, rfl⟩

end Go.Proofs.Ytfcflnnleadpkaa
