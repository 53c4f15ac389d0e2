/- The tables of unicode/utf8, from what a row's list gives. -/
import Derived.Test.YtonbjfepckolnaaDoorNpLast
import Derived.Test.YtonbjfepckolnaaDoorShelf
import Derived.Lib.LaidU8
namespace Go.Proofs.YtonbjfepckolnaaDoor
namespace Np
open Go.RowKit
theorem tabs_of {W : World} {l : List (String × DataW Unit)} (h : laidMet Tryd.prog l W) (h3 : ("unicode/utf8.first", Lib.firstData) ∈ l) (h4 : ("unicode/utf8.acceptRanges", Lib.acceptData) ∈ l) : Tabs W :=
  utf8Tabs_of_reads { Tryd.lays260 with } ⟨by kernel_rfl, by kernel_rfl, by kernel_rfl, by kernel_rfl, by kernel_rfl, by kernel_rfl, by kernel_rfl⟩ (Lib.laidMet.reads h h3) (Lib.laidMet.reads h h4)
end Np
end Go.Proofs.YtonbjfepckolnaaDoor
