import Derived.Test.YtagglmnmjahnjaaProg
import Derived.Test.YtagglmnmjahnjaaMb
import Derived.WalkKit
import Derived.WalkSpells
import Derived.WalkLawsBesides
import Derived.Outline
namespace Go.Proofs.Ytagglmnmjahnjaa
open Go.RowKit

theorem hide {p : Prop} (h : p) : Hid p := h
theorem unhide {p : Prop} (h : Hid p) : p := h

end Go.Proofs.Ytagglmnmjahnjaa
