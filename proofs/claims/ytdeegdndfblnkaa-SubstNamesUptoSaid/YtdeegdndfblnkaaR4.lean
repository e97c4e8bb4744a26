/- walk; Size. -/
import Derived.Test.YtdeegdndfblnkaaR3
import Derived.Deep.DeepCutAuto
import Derived.RangeFuncBox
import Derived.Laws.EntriesVeiled
namespace Go.Proofs.Ytdeegdndfblnkaa
open Go.RowKit Go.Shelf
attribute [local go_sem] Oper.semAt_some
set_option maxRecDepth 100000