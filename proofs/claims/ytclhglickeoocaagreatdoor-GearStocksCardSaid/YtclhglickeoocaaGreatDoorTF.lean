/- Calls that the kernel reckons. Made by a program of mine. -/
import Derived.Test.YtclhglickeoocaaGreatDoorTK
import Derived.KernelRfl
namespace Go.Ev.Tryz
theorem m36_ok : MemoOK env.P 22 m36 := memo_of_fits ok1 40000 (by kernel_rfl)
end Go.Ev.Tryz
