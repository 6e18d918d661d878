import Derived.Test.YtfcflnnleadpkaaProg
import Derived.Test.YtfcflnnleadpkaaMb
import Derived.WalkKit
import Derived.WalkSpells
import Derived.WalkLawsBesides
import Derived.Outline
namespace Go.Proofs.Ytfcflnnleadpkaa
open Go.RowKit

theorem hide {p : Prop} (h : p) : Hid p := h
theorem unhide {p : Prop} (h : Hid p) : p := h

end Go.Proofs.Ytfcflnnleadpkaa
