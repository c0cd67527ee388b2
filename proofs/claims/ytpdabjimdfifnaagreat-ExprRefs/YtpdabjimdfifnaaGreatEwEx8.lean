/- The law ExprChoice: what its function answers. -/
import Derived.Test.YtpdabjimdfifnaaGreatEwEx7
import Derived.Test.YtpdabjimdfifnaaGreatEwVc5
set_option linter.unusedVariables false
set_option linter.unusedSimpArgs false
namespace Go.Ew
open Go.Ev Go.Deep Go.Proofs.YtpdabjimdfifnaaGreat.Va

/-- A truth, as a constant. -/
def truE (b : Bool) : Ex := .mk 0 (truV b) 0 0 []

def opE (op : Int) (args : List Ex) : Ex := .mk op (.mk 0 0 emp []) 0 0 args

end Go.Ew

namespace Go.Proofs.YtpdabjimdfifnaaGreat
open Go.Ev Go.Ew
namespace Va

theorem c6 {H : KH} {Q : Value → KH → Prop} (hq : Q (.bool true) H) : Does (env Tryz.prog) 6 [] H Q := does_true (by kernel_rfl) (by kernel_rfl) (by kernel_rfl) hq

section
variable (ok : EnvOk (env Tryz.prog))
include ok

end
end Va
end Go.Proofs.YtpdabjimdfifnaaGreat
