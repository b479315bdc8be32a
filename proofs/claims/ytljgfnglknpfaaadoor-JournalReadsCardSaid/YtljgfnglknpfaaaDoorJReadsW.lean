/-
  JournalReads: the law.
-/
import Derived.Test.YtljgfnglknpfaaaDoorJReadsA
import Derived.Test.YtljgfnglknpfaaaDoorJReadsB
namespace Go.Proofs.YtljgfnglknpfaaaDoor
open Go Go.RowKit Go.Sort Dk Wire

theorem jreads_law (log : List UInt8) (hlog : log.length ≤ 9223372036854775807) (bytes : Int) (hbytes : InR bytes) (n : Int) (hn : InR n) (raw : List UInt8) (hraw : raw.length ≤ 9223372036854775807) (w : World) (hgt : Good w ∧ Tab w) :
    Calls Tryd.prog 3 #[.string ⟨log.toArray⟩, .int .i64 bytes, .int .i64 n, .string ⟨raw.toArray⟩] w fun e w' => e = .returned (.bool true) ∧ RowKit.Below w.heap.size w w' := by
  by_cases he : log.length ≤ 300 ∧ raw.length ≤ 300 ∧ n ≤ 400
  · by_cases hgv : ∃ j, Jn.given 1 (val6 raw bytes n) log = (some j, 0)
    · exact jreads_inB log raw he.1 he.2.1 bytes n hbytes hn he.2.2 w hgt.2 hgt.1 hgv
    · exact jreads_inA log raw he.1 he.2.1 bytes n hbytes hn he.2.2 w hgt.2 hgt.1 (fun j e => hgv ⟨j, e⟩)
  · exact jreads_out log raw hlog hraw bytes n w hgt.2 hgt.1 he
end Go.Proofs.YtljgfnglknpfaaaDoor
