/- Calls that the kernel reckons. Made by a program of mine. -/
import Derived.Test.YtclhglickeoocaaGreatDoorTK
import Derived.KernelRfl
namespace Go.Ev.Tryz
theorem m1_ok : MemoOK env.P 12 m1 := memo_of_fits ok1 40000 (by kernel_rfl)
theorem m3_ok : MemoOK env.P 13 m3 := memo_of_fits ok1 40000 (by kernel_rfl)
theorem m14_ok : MemoOK env.P 14 m14 := memo_of_fits ok1 40000 (by kernel_rfl)
end Go.Ev.Tryz
