/- Signs as a value. -/
import Derived.Test.YtehocgemgdbikaaGreatDoorNoMath
import Derived.Test.YtehocgemgdbikaaGreatDoorNpVal
namespace Go.Proofs.YtehocgemgdbikaaGreatDoor
namespace No
open Go.RowKit D Ru Np

/-- the signs as a value -/
abbrev symC (pt cm : UInt8) : List Value := [.int .u8 pt.toNat, .int .u8 cm.toNat]
abbrev symV (pt cm : UInt8) : Value := .agg (symC pt cm).toArray
end No
end Go.Proofs.YtehocgemgdbikaaGreatDoor
