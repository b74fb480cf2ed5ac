import Derived.Test.YtclhglickeoocaaGreatDoorTA
import Derived.Test.YtclhglickeoocaaGreatDoorTB
import Derived.Test.YtclhglickeoocaaGreatDoorTC
import Derived.Test.YtclhglickeoocaaGreatDoorTD
import Derived.Test.YtclhglickeoocaaGreatDoorTF
import Derived.KernelRfl
section
/- The table of the calls. Made by a program of mine. -/
namespace Go.Ev.Tryz
noncomputable def known : List (Nat × List Memo) := [(12, [m1]), (13, [m3]), (14, [m14]), (16, [m18]), (17, [m19]), (18, [m20]), (19, [m21]), (20, [m22]), (21, [m25]), (22, [m36]), (23, [m37, m38]), (24, [m39, m40])]
theorem known_ok : AllM env.P known := by
  refine ⟨fun M h => by
    simp only [List.mem_cons, List.not_mem_nil, or_false] at h
    rcases h with rfl
    · exact m1_ok, ?_⟩
  refine ⟨fun M h => by
    simp only [List.mem_cons, List.not_mem_nil, or_false] at h
    rcases h with rfl
    · exact m3_ok, ?_⟩
  refine ⟨fun M h => by
    simp only [List.mem_cons, List.not_mem_nil, or_false] at h
    rcases h with rfl
    · exact m14_ok, ?_⟩
  refine ⟨fun M h => by
    simp only [List.mem_cons, List.not_mem_nil, or_false] at h
    rcases h with rfl
    · exact m18_ok, ?_⟩
  refine ⟨fun M h => by
    simp only [List.mem_cons, List.not_mem_nil, or_false] at h
    rcases h with rfl
    · exact m19_ok, ?_⟩
  refine ⟨fun M h => by
    simp only [List.mem_cons, List.not_mem_nil, or_false] at h
    rcases h with rfl
    · exact m20_ok, ?_⟩
  refine ⟨fun M h => by
    simp only [List.mem_cons, List.not_mem_nil, or_false] at h
    rcases h with rfl
    · exact m21_ok, ?_⟩
  refine ⟨fun M h => by
    simp only [List.mem_cons, List.not_mem_nil, or_false] at h
    rcases h with rfl
    · exact m22_ok, ?_⟩
  refine ⟨fun M h => by
    simp only [List.mem_cons, List.not_mem_nil, or_false] at h
    rcases h with rfl
    · exact m25_ok, ?_⟩
  refine ⟨fun M h => by
    simp only [List.mem_cons, List.not_mem_nil, or_false] at h
    rcases h with rfl
    · exact m36_ok, ?_⟩
  refine ⟨fun M h => by
    simp only [List.mem_cons, List.not_mem_nil, or_false] at h
    rcases h with rfl | rfl
    · exact m37_ok
    · exact m38_ok, ?_⟩
  refine ⟨fun M h => by
    simp only [List.mem_cons, List.not_mem_nil, or_false] at h
    rcases h with rfl | rfl
    · exact m39_ok
    · exact m40_ok, ?_⟩
  exact trivial
noncomputable def env2 : Env := withMemo env known
theorem ok2 : EnvOK env2 := envMemo ok (by kernel_rfl) known_ok
end Go.Ev.Tryz
end

section
namespace Go.Proofs.YtclhglickeoocaaGreatDoor
open Go Go.Ev Go.Proofs Go.RowKit
/-- awake of the laws of chapter 5. -/
theorem awake05_true (w : World) : Calls Tryz.prog 4 ⟨[]⟩ w fun e w' => e = .returned (.bool true) ∧ Below w.heap.size w w' :=
  calls_of_ans (E := Ev.Tryz.env2) Ev.Tryz.ok2 40000 100 (by kernel_rfl) (by decide) rfl rfl w
end Go.Proofs.YtclhglickeoocaaGreatDoor
end

