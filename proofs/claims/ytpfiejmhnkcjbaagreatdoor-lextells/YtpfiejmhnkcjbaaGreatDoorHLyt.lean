import Derived.Test.YtpfiejmhnkcjbaaGreatDoorHG23x
import Derived.Test.YtpfiejmhnkcjbaaGreatDoorTie
import Derived.MakeChecks
import Derived.Stop.LaidErr
namespace Go.Proofs.YtpfiejmhnkcjbaaGreatDoor
open Go.RowKit
set_option linter.unusedVariables false
theorem ptab_lexTells {W : World} (h : laidMetH Tryz.prog Rows.lexTellsRow.laid W) : D6.Ptab W := by
 rw [MakeChecks.laidMetH_plain _ _ _ (by kernel_rfl)] at h
 have h3 : laidMet Tryz.prog [("internal/strconv.uint64pow10", Lib.tabData .u64 Lib.pow10Tab), ("unicode/utf8.acceptRanges", Rows.laid_unicode_utf8_acceptRanges), ("unicode.CaseRanges", Rows.laid_unicode_CaseRanges), ("unicode/utf8.first", Rows.laid_unicode_utf8_first)] W := laidMet.tail (laidMet.tail h)
 exact Lib.tabIs_of_head (g := 6) (t := 195) (e := 56) (n := 20) (by kernel_rfl) (by kernel_rfl) (by kernel_rfl) (by kernel_rfl) (by kernel_rfl) (by kernel_rfl) h3
end Go.Proofs.YtpfiejmhnkcjbaaGreatDoor
