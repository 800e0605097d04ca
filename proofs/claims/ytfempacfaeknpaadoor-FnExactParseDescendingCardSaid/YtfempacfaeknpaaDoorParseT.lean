/- Contract of the model's sgParse. Condition: the text has at most 2^20 bytes. -/
import Derived.Test.YtfempacfaeknpaaDoorParseS
import Derived.Test.YtfempacfaeknpaaDoorDiff
namespace Go.Proofs.YtfempacfaeknpaaDoor
open Go.RowKit

theorem bstr_list (l : List UInt8) : (bstr l).toList = l := ByteArray.toList_mk l
theorem text_ne {x l : List UInt8} : (!((bstr x).toList == (bstr l).toList)) = !(decide (x = l)) := by
  rw [bstr_list, bstr_list]
  by_cases h : x = l
  · subst h; simp
  · have : (x == l) = false := by simp [h]
    rw [this]; simp [h]

end Go.Proofs.YtfempacfaeknpaaDoor
