/- How long the parade may last, where and when: the reference. Own work; imports no translation. -/
import Derived.Test.YtgdalimggamgmabLasting
import Derived.Test.YtgdalimggamgmabPasses
import Derived.Test.YtgdalimggamgmabRules
namespace Go.Proofs.Ytgdalimggamgmab
open Go.RowKit
set_option linter.unusedVariables false
set_option linter.unusedSimpArgs false

section
variable (r : Int) (A B : Option Addr) (c d : Nat) (ws : List Wg) (sts : List Int) (T1 T2 : TypeId) (w : World) (h1 : SlW w T1 A ws) (h2 : SlI w T2 B sts) (hl2 : sts.length ≤ maxLen) (hval : VSt r ws sts)
include h1 h2 hl2 hval

end

section
variable (r : Int) (A B : Option Addr) (c d : Nat) (ws : List Wg) (sts : List Int) (T1 T2 : TypeId) (w : World) (h1 : SlW w T1 A ws) (h2 : SlI w T2 B sts) (hf : Fit ws) (hl1 : ws.length ≤ maxLen) (hc : ws.length ≤ c) (hl2 : sts.length ≤ maxLen) (hd : sts.length ≤ d)
include h1 h2 hf hl1 hc hl2 hd

end
end Go.Proofs.Ytgdalimggamgmab
