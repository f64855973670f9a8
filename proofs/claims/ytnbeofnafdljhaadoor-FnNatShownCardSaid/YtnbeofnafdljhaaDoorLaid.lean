/- From the row's condition on the library's tables to what the contracts ask. -/
import Derived.Test.YtnbeofnafdljhaaDoorShow
import Derived.MakeChecks
import Derived.LaidMore
import Derived.Stop.LaidErr
import Derived.Lib.LaidTab
namespace Go.Proofs.YtnbeofnafdljhaaDoor
open Go.RowKit
set_option maxRecDepth 100000

theorem tab_of_laid {w : World} (h : laidMetH Tryd.prog [("math/bits.deBruijn32tab", Rows.laid_math_bits_deBruijn32tab), ("math/bits.deBruijn64tab", Rows.laid_math_bits_deBruijn64tab), ("internal/strconv.uint64pow10", Rows.laid_internal_strconv_uint64pow10)] w) :
    Lib.TabIs Tryd.prog w "internal/strconv.uint64pow10" .u64 Lib.pow10Tab := by
  rw [MakeChecks.laidMetH_plain _ _ _ (by kernel_rfl)] at h
  exact Lib.tabIs_of_head (t := 76) (e := 26) (n := 20) (g := 0) (by kernel_rfl) (by kernel_rfl) Tryd.underlying76 Tryd.underlying26 (by kernel_rfl) (by kernel_rfl) h.tail.tail
end Go.Proofs.YtnbeofnafdljhaaDoor
