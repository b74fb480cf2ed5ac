import Derived.Test.YtggcnnpklkmeoaaGreatDoorFR
import Derived.OpenShut
namespace Go.Proofs.YtggcnnpklkmeoaaGreatDoor
open Go.RowKit Go Go.ChangeShapes Go.WideShapes Go.Deep

/-! An argument that is an array of two slices of integers, as a statement's frame hands it over. -/
section
variable {H : Type} {enc : TypeId × Value → H} {P : Program} {w : World} {base : Nat} {spare : Nat → Bool} {held : Bool}

theorem open_two {r : Reach} {b0 : Nat} {t e e2 : TypeId} {v : Value} {d : DataW H} {pl : List MemPlace} (hs : P.underlying t = some (.array 2 e)) (hC : P.cellsOf t = 2) (he : P.cellsOf e = 1)
    (k0 : P.underlying e = some (.slice e2)) (k2 : P.underlying e2 = some (.int .i64)) (k3 : P.cellsOf e2 = 1)
    (hv : Value.okWide P w r b0 t v) (h : DataW.Trod enc P w base spare held t v d pl) :
    ∃ (y1 y2 : List Int) (c1 c2 : Nat) (q1 q2 : Option Addr), v = .agg #[.slice q1 y1.length c1, .slice q2 y2.length c2] ∧ (y1.length ≤ 1099511627776 → IntV w q1 y1) ∧ (y2.length ≤ 1099511627776 → IntV w q2 y2) ∧
      y1.length ≤ c1 ∧ y2.length ≤ c2 ∧ c1 ≤ maxLen ∧ c2 ≤ maxLen := by
  obtain ⟨cs, rfl, hsz⟩ : ∃ cs, v = .agg cs ∧ cs.size = P.cellsOf t := by
    simp only [Value.okWide, hs] at hv
    obtain ⟨cs, h1, h2, _⟩ := hv
    exact ⟨cs, h1, h2⟩
  rw [hC] at hsz
  obtain ⟨l⟩ := cs
  match l, hsz with
  | [a, b], _ =>
    obtain ⟨fuel, hf⟩ := h
    obtain ⟨xs, m, -, -, -, hxl, hall⟩ := DataW.trod_array hs hf
    have h0 := hall 0 (by omega)
    have h1 := hall 1 (by omega)
    rw [he, List.getElem?_eq_getElem (by omega)] at h0
    rw [he, List.getElem?_eq_getElem (by omega)] at h1
    have h0' : DataW.trod enc P w base spare held m e [a] = some xs[0] := h0
    have h1' : DataW.trod enc P w base spare held m e [b] = some xs[1] := h1
    obtain ⟨y1, q1, c1, rfl, a1, a2, a3⟩ := open_cell k0 k2 k3 h0'
    obtain ⟨y2, q2, c2, rfl, b1, b2, b3⟩ := open_cell k0 k2 k3 h1'
    exact ⟨y1, y2, c1, c2, q1, q2, rfl, a1, b1, a2, b2, a3, b3⟩
end
end Go.Proofs.YtggcnnpklkmeoaaGreatDoor
