/-
  Joined: RegS.
-/
import Derived.Deep.RegionHeld3
/-
  A region that draws its order: operations that a guard strikes, all at once.
-/
namespace Go.Proofs.Ytoacgoelhidmbaa
set_option linter.unusedVariables false
set_option linter.unusedSimpArgs false

section
variable {P : Program} {ops : Array Oper} {Q : Exit → Act → World → Prop} {md : Region.Mode} {S : World → Prop}

end

end Go.Proofs.Ytoacgoelhidmbaa
