/-
  The shelf of a seat that calls none of the library's functions by contract. No condition.
-/
import Derived.Test.YtmgpfkckafdbmaaChecked
import Derived.WalkKit
import Derived.Carry
import Derived.Laws.Rows
import Derived.Handy
import Derived.Below
import Derived.Laws.CopyOwn
import Derived.Sort.Defs
import Derived.Lib.QuietBelow
