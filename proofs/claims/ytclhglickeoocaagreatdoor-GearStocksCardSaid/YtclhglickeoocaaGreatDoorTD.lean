/- Calls that the kernel reckons. Made by a program of mine. -/
import Derived.Test.YtclhglickeoocaaGreatDoorTK
import Derived.KernelRfl
namespace Go.Ev.Tryz
theorem m21_ok : MemoOK env.P 19 m21 := memo_of_fits ok1 40000 (by kernel_rfl)
theorem m37_ok : MemoOK env.P 23 m37 := memo_of_fits ok1 40000 (by kernel_rfl)
theorem m38_ok : MemoOK env.P 23 m38 := memo_of_fits ok1 40000 (by kernel_rfl)
theorem m39_ok : MemoOK env.P 24 m39 := memo_of_fits ok1 40000 (by kernel_rfl)
theorem m40_ok : MemoOK env.P 24 m40 := memo_of_fits ok1 40000 (by kernel_rfl)
end Go.Ev.Tryz
