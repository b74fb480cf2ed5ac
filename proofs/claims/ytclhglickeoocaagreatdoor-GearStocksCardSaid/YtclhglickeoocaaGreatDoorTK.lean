/- The table of the calls within calls. Made by a program of mine. -/
import Derived.Test.YtclhglickeoocaaGreatDoorTN
import Derived.Test.YtclhglickeoocaaGreatDoorSD
import Derived.KernelRfl
namespace Go.Ev.Tryz
noncomputable def known0 : List (Nat × List Memo) := [(33, [m2]), (42, [m17]), (66, [m0, m5, m7, m8, m9, m10, m12, m13, m23, m24, m27, m29, m30, m31, m32, m34, m35]), (76, [m4, m6, m11, m15, m16, m26, m28, m33])]
theorem known0_ok : AllM env.P known0 := by
  refine ⟨fun M h => by
    simp only [List.mem_cons, List.not_mem_nil, or_false] at h
    rcases h with rfl
    · exact m2_ok, ?_⟩
  refine ⟨fun M h => by
    simp only [List.mem_cons, List.not_mem_nil, or_false] at h
    rcases h with rfl
    · exact m17_ok, ?_⟩
  refine ⟨fun M h => by
    simp only [List.mem_cons, List.not_mem_nil, or_false] at h
    rcases h with rfl | rfl | rfl | rfl | rfl | rfl | rfl | rfl | rfl | rfl | rfl | rfl | rfl | rfl | rfl | rfl | rfl
    · exact m0_ok
    · exact m5_ok
    · exact m7_ok
    · exact m8_ok
    · exact m9_ok
    · exact m10_ok
    · exact m12_ok
    · exact m13_ok
    · exact m23_ok
    · exact m24_ok
    · exact m27_ok
    · exact m29_ok
    · exact m30_ok
    · exact m31_ok
    · exact m32_ok
    · exact m34_ok
    · exact m35_ok, ?_⟩
  refine ⟨fun M h => by
    simp only [List.mem_cons, List.not_mem_nil, or_false] at h
    rcases h with rfl | rfl | rfl | rfl | rfl | rfl | rfl | rfl
    · exact m4_ok
    · exact m6_ok
    · exact m11_ok
    · exact m15_ok
    · exact m16_ok
    · exact m26_ok
    · exact m28_ok
    · exact m33_ok, ?_⟩
  exact trivial
noncomputable def env1 : Env := withMemo env known0
theorem ok1 : EnvOK env1 := envMemo ok (by kernel_rfl) known0_ok
end Go.Ev.Tryz
