/- Signs as a value. -/
import Derived.Test.YtehocgemgdbikaaDoorNoMath
import Derived.Test.YtehocgemgdbikaaDoorNpVal
namespace Go.Proofs.YtehocgemgdbikaaDoor
namespace No
open Go.RowKit D Ru Np

/-- the signs as a value -/
abbrev symC (pt cm : UInt8) : List Value := [.int .u8 pt.toNat, .int .u8 cm.toNat]
abbrev symV (pt cm : UInt8) : Value := .agg (symC pt cm).toArray
end No
end Go.Proofs.YtehocgemgdbikaaDoor
