/-
  Layer 1's Put.
-/
import Derived.Test.YtlobmefcpjjbcaaCodeE
import Derived.Deep.RegionLaw
namespace Go.Proofs.Ytlobmefcpjjbcaa
open Go.RowKit
set_option linter.unusedVariables false
set_option linter.unusedSimpArgs false

def putE (l : List UInt8) (i wd n : Int) : Int := if roomE l.length i wd = 0 then (if fitsB n wd = true then 0 else 2) else roomE l.length i wd
def putB (l : List UInt8) (i wd n : Int) : List UInt8 := if putE l i wd n = 0 then l.take i.toNat ++ (encN wd.toNat n.toNat ++ l.drop (i.toNat + wd.toNat)) else []


end Go.Proofs.Ytlobmefcpjjbcaa
