/- Calls that the kernel reckons. Made by a program of mine. -/
import Derived.Test.YtclhglickeoocaaGreatDoorTK
import Derived.KernelRfl
namespace Go.Ev.Tryz
theorem m19_ok : MemoOK env.P 17 m19 := memo_of_fits ok1 40000 (by kernel_rfl)
theorem m20_ok : MemoOK env.P 18 m20 := memo_of_fits ok1 40000 (by kernel_rfl)
end Go.Ev.Tryz
