/- The library's sort of lists of patterns, laid at this program. No conditions. -/
import Derived.Test.YtncpoljjfhmkeaaProg
import Derived.Shelf.SlSortCmp.NoneTotal
import Derived.Shelf.Lay
import Derived.Ground.SlsfProg
namespace Go.Proofs
open Go.Shelf Go.RowKit Go.Lib Go.Sort
shelf_lay_g SlLaysF.n6 Slsf 6 at Try 105 as Try.sortL
end Go.Proofs
