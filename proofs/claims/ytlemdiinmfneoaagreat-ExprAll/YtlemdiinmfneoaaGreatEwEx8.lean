/- The law ExprChoice: what its function answers. -/
import Derived.Test.YtlemdiinmfneoaaGreatEwEx7
import Derived.Test.YtlemdiinmfneoaaGreatEwVc6
set_option linter.unusedVariables false
set_option linter.unusedSimpArgs false
namespace Go.Ew
open Go.Ev Go.Deep Go.Proofs.YtlemdiinmfneoaaGreat.Va

/-- A truth, as a constant. -/
def truE (b : Bool) : Ex := .mk 0 (truV b) 0 0 []

def opE (op : Int) (args : List Ex) : Ex := .mk op (.mk 0 0 emp []) 0 0 args

theorem taken_ok {v : V} (h : Ok v) : takenV v = v := by
  have hs : smallV v = v := small_le h.sz
  unfold takenV
  rw [hs, if_pos (by rw [decide_eq_true h.sz, h.fit]; rfl)]

end Go.Ew

namespace Go.Proofs.YtlemdiinmfneoaaGreat
open Go.Ev Go.Ew
namespace Va

theorem c4 {H : KH} {Q : PQ} (hq : Q (.bool true) H) : Does (env Tryz.prog) 4 [] H Q := does_true (by kernel_rfl) (by kernel_rfl) (by kernel_rfl) hq

section
variable (ok : EnvOk (env Tryz.prog))
include ok

end
end Va
end Go.Proofs.YtlemdiinmfneoaaGreat
