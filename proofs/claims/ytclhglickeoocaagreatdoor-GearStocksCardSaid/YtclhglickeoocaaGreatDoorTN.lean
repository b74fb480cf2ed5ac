import Derived.Test.YtclhglickeoocaaGreatDoorTM
import Derived.KernelRfl
section
/- Calls that the kernel reckons. Made by a program of mine. -/
namespace Go.Ev.Tryz
theorem m0_ok : MemoOK env.P 66 m0 := memo_of_fits ok 40000 (by kernel_rfl)
theorem m4_ok : MemoOK env.P 76 m4 := memo_of_fits ok 40000 (by kernel_rfl)
theorem m5_ok : MemoOK env.P 66 m5 := memo_of_fits ok 40000 (by kernel_rfl)
theorem m6_ok : MemoOK env.P 76 m6 := memo_of_fits ok 40000 (by kernel_rfl)
theorem m7_ok : MemoOK env.P 66 m7 := memo_of_fits ok 40000 (by kernel_rfl)
theorem m8_ok : MemoOK env.P 66 m8 := memo_of_fits ok 40000 (by kernel_rfl)
theorem m9_ok : MemoOK env.P 66 m9 := memo_of_fits ok 40000 (by kernel_rfl)
theorem m10_ok : MemoOK env.P 66 m10 := memo_of_fits ok 40000 (by kernel_rfl)
theorem m11_ok : MemoOK env.P 76 m11 := memo_of_fits ok 40000 (by kernel_rfl)
theorem m12_ok : MemoOK env.P 66 m12 := memo_of_fits ok 40000 (by kernel_rfl)
theorem m13_ok : MemoOK env.P 66 m13 := memo_of_fits ok 40000 (by kernel_rfl)
theorem m15_ok : MemoOK env.P 76 m15 := memo_of_fits ok 40000 (by kernel_rfl)
theorem m16_ok : MemoOK env.P 76 m16 := memo_of_fits ok 40000 (by kernel_rfl)
end Go.Ev.Tryz
end

section
/- Calls that the kernel reckons. Made by a program of mine. -/
namespace Go.Ev.Tryz
theorem m23_ok : MemoOK env.P 66 m23 := memo_of_fits ok 40000 (by kernel_rfl)
theorem m24_ok : MemoOK env.P 66 m24 := memo_of_fits ok 40000 (by kernel_rfl)
theorem m26_ok : MemoOK env.P 76 m26 := memo_of_fits ok 40000 (by kernel_rfl)
theorem m27_ok : MemoOK env.P 66 m27 := memo_of_fits ok 40000 (by kernel_rfl)
theorem m28_ok : MemoOK env.P 76 m28 := memo_of_fits ok 40000 (by kernel_rfl)
theorem m29_ok : MemoOK env.P 66 m29 := memo_of_fits ok 40000 (by kernel_rfl)
theorem m30_ok : MemoOK env.P 66 m30 := memo_of_fits ok 40000 (by kernel_rfl)
theorem m31_ok : MemoOK env.P 66 m31 := memo_of_fits ok 40000 (by kernel_rfl)
theorem m32_ok : MemoOK env.P 66 m32 := memo_of_fits ok 40000 (by kernel_rfl)
theorem m33_ok : MemoOK env.P 76 m33 := memo_of_fits ok 40000 (by kernel_rfl)
theorem m34_ok : MemoOK env.P 66 m34 := memo_of_fits ok 40000 (by kernel_rfl)
theorem m35_ok : MemoOK env.P 66 m35 := memo_of_fits ok 40000 (by kernel_rfl)
end Go.Ev.Tryz
end

