/- quant's contracts paid. -/
import Derived.Test.YtimcbeblmicioaaQw0
import Derived.Test.YtimcbeblmicioaaQkd
import Derived.Test.YtimcbeblmicioaaQke
namespace Go.Proofs.Ytimcbeblmicioaa
open Go.RowKit Go.Deep

theorem ctAdd : CtAdd := addQ_any
theorem ctFind : CtFind := findQ_any
theorem ctAll : CtAll := allQ_any
theorem ctRight : CtRight := right_any
theorem ctCount : CtCount := fun A ca S w h1 h2 h3 => count_any A ca S w h1 h2 (by omega)
end Go.Proofs.Ytimcbeblmicioaa
