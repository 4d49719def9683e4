/-
  Joined: SealG, SealH.
-/
import Derived.Deep.RegionHeld3
import Derived.Deep.RegionWith
import Derived.Deep.DeepCutAuto
import Derived.Test.YtmjmhoihmnbjkaaGreatJWlkC17
import Derived.Test.YtmjmhoihmnbjkaaGreatJWlkC14
import Derived.Test.YtmjmhoihmnbjkaaGreatJWlkC09
import Derived.LoopTactic
/-
  The reference's Open.
-/
namespace Go.Proofs.YtmjmhoihmnbjkaaGreat
open Go.RowKit
set_option linter.unusedVariables false
set_option linter.unusedSimpArgs false

end Go.Proofs.YtmjmhoihmnbjkaaGreat

/-
  The reference's Open, whatever the block, and its Which.
-/
namespace Go.Proofs.YtmjmhoihmnbjkaaGreat
open Go.RowKit
set_option linter.unusedVariables false
set_option linter.unusedSimpArgs false

end Go.Proofs.YtmjmhoihmnbjkaaGreat
