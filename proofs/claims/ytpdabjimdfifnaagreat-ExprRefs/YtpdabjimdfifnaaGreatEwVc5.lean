/- What is to be shown of functions of the program, read off their code. -/
import Derived.Test.YtpdabjimdfifnaaGreatEwVc1
import Derived.Test.YtpdabjimdfifnaaGreatEwS6
import Derived.Test.YtpdabjimdfifnaaGreatEwLib
set_option linter.unusedVariables false
namespace Go.Proofs.YtpdabjimdfifnaaGreat
open Go.Ev Go.Ew
namespace Va

end Va
end Go.Proofs.YtpdabjimdfifnaaGreat
