/- Calls that the kernel reckons. Made by a program of mine. -/
import Derived.Test.YtclhglickeoocaaGreatDoorTK
import Derived.KernelRfl
namespace Go.Ev.Tryz
theorem m18_ok : MemoOK env.P 16 m18 := memo_of_fits ok1 40000 (by kernel_rfl)
theorem m22_ok : MemoOK env.P 20 m22 := memo_of_fits ok1 40000 (by kernel_rfl)
theorem m25_ok : MemoOK env.P 21 m25 := memo_of_fits ok1 40000 (by kernel_rfl)
end Go.Ev.Tryz
