import Derived.Test.YtfcflnnleadpkaaRf
import Derived.Test.YtfcflnnleadpkaaLj
namespace Go.Proofs.Ytfcflnnleadpkaa
open Go.RowKit

set_option maxHeartbeats 1000000 in
theorem num_any (w : World) (x : Int) : Calls Try.prog 16 #[.int .i64 x] w fun e w' => e = .returned (.int .i64 x) ∧ w' = w := by
  go_enter Try.func16, Try.ntmps16
  go_wp2_with fail
  go_ret
  exact ⟨rfl, rfl⟩

set_option maxHeartbeats 1000000 in
theorem Orders_walk (w : World) (s : ByteArray) :
    Calls Try.prog 3 #[.string s] w fun e w' => e = .returned (.bool true) ∧ Below w.heap.size w w' := by
  go_enter Try.func3, Try.ntmps3
  go_wp2_with fail
  refine (Order_any _ _).mono ?_
  rintro e w1 ⟨⟨a, p, n, hr, rfl⟩, hb⟩
  have HR := hide hr
  clear hr
  go_wp2_with fail
  refine (Read_any _ _).mono ?_
  rintro e w2 ⟨⟨a', p', n', hr', hans⟩, hb2⟩
  obtain ⟨rfl, rfl, rfl⟩ := ReadPost_uniq (unhide HR) hr'
  have HB := hide (hb.trans (hb2.mono hb.size))
  clear hr' hb2 hb
  rcases hans with ⟨ha, rfl⟩ | ⟨rfl, rfl, h1, h8, o, g, cap, rb, ho, hord, rfl⟩
  · go_wp2_with fail
    refine (num_any _ _).mono ?_
    rintro e w' ⟨rfl, rfl⟩
    go_wp2_with fail
    go_ret
    exact ⟨rfl, unhide HB⟩
  · clear hord
    go_wp2_with fail
    refine (num_any _ _).mono ?_
    rintro e w' ⟨rfl, rfl⟩
    go_wp2_with fail
    go_ret
    exact ⟨rfl, unhide HB⟩

end Go.Proofs.Ytfcflnnleadpkaa
