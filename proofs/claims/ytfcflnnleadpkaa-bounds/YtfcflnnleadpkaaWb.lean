import Derived.Test.YtfcflnnleadpkaaRg
import Derived.Test.YtfcflnnleadpkaaWa
import Derived.Test.YtfcflnnleadpkaaMd
namespace Go.Proofs.Ytfcflnnleadpkaa
open Go.RowKit

theorem hushJoin_at (w : World) (s : ByteArray) (a p : Int) (n : Nat) (hr : ReadPost s a p n) (x y : Int) :
    Calls Try.prog 17 #[.string s, .int .i64 x, .int .i64 y] w fun e w' => e = .returned (.tuple #[.int .i64 (jV s a n x y), .int .i64 (jE a n x y)]) ∧ Below w.heap.size w w' := by
  refine (hushJoin_any w s x y).mono ?_
  rintro e w' ⟨⟨a', p', n', hr', rfl⟩, hb⟩
  obtain ⟨rfl, rfl, rfl⟩ := ReadPost_uniq hr hr'
  exact ⟨rfl, hb⟩

set_option maxHeartbeats 1000000 in
theorem Joins_walk (w : World) (s : ByteArray) (x y : Int) :
    Calls Try.prog 4 #[.string s, .int .i64 x, .int .i64 y] w fun e w' => e = .returned (.bool true) ∧ Below w.heap.size w w' := by
  go_enter Try.func4, Try.ntmps4
  go_wp2_with fail
  refine (hushJoin_any _ _ _ _).mono ?_
  rintro e w1 ⟨⟨a, p, n, hr, rfl⟩, hb⟩
  have HR := hide hr
  clear hr
  go_wp2_with fail
  refine (refJoin_any _ _ _ _).mono ?_
  rintro e w2 ⟨⟨a', p', n', hr', rfl⟩, hb2⟩
  obtain ⟨rfl, rfl, rfl⟩ := ReadPost_uniq (unhide HR) hr'
  have HB := hide (hb.trans (hb2.mono hb.size))
  clear hr' hb2 hb
  generalize jV s a n x y = v
  generalize jE a n x y = f
  go_wp2_with fail
  refine (num_any _ _).mono ?_
  rintro e w' ⟨rfl, rfl⟩
  go_wp2_with fail
  go_ret
  exact ⟨rfl, unhide HB⟩

end Go.Proofs.Ytfcflnnleadpkaa
