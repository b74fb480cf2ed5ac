import Derived.Test.YtclhglickeoocaaGreatDoorWA
import Derived.Deep.Slices
import Derived.Deep.Fields
import Derived.ChangeSame
import Derived.OpenShut
namespace Go.Proofs.YtclhglickeoocaaGreatDoor
open Go.RowKit Go Go.ChangeShapes Go.WideShapes Go.Deep

/-! Arguments that are slices of structs of integers, and of nets, as a statement's frame hands them over. -/
section
variable {H : Type} {enc : TypeId × Value → H} {P : Program} {w : World} {base : Nat} {spare : Nat → Bool} {held : Bool}

/-- A cell that is there says that its address has no spot and stands in the heap. -/
theorem cell_at {w : World} {a : Addr} {v : Value} (h : w.cell? a = some v) : a.spot = none ∧ a.block < w.heap.size := by
  unfold World.cell? at h
  split at h
  · rename_i c e s hb
    refine ⟨?_, ?_⟩
    · split at h
      · cases h
      · rename_i hs; simpa using hs
    · exact (Array.getElem?_eq_some_iff.1 hb).1
  · cases h

theorem add_none (g off i : Nat) : (⟨g, off, none⟩ : Addr).add i = ⟨g, off + i, none⟩ := by simp [Addr.add]

/-- Element i of a slice of structs, its field j. -/
theorem slice_fields {t e : TypeId} {fs : Array Field} {p : Option Addr} {len ca : Nat} {d : DataW H} {pl : List MemPlace} (ht : P.underlying t = some (.slice e)) (he : P.underlying e = some (.struct fs))
    (hone : oneCellFields P fs = true) (hC : P.cellsOf e = fs.size) (h : DataW.Trod enc P w base spare held t (.slice p len ca) d pl) :
    (p = none ∧ len = 0 ∧ ca = 0) ∨ ∃ a, p = some a ∧ len ≤ ca ∧ ca ≤ maxLen ∧ ∀ i, i < len → ∀ (j : Nat) (f : Field), fs[j]? = some f →
      ∃ (v : Value) (n : Nat) (y : DataW H × List MemPlace), w.cell? (a.add (i * fs.size + j)) = some v ∧ DataW.trod enc P w base spare held n f.type [v] = some y := by
  obtain ⟨fuel, h⟩ := h
  rcases open_slice ht h with ⟨hcs, _⟩ | ⟨a, len2, ca2, m, n, D, Pl, hcs, hb, hl, hm, hmm, hx, hi⟩
  · simp only [Value.cells, List.cons.injEq, Value.slice.injEq, and_true] at hcs
    exact .inl hcs
  · simp only [Value.cells, List.cons.injEq, Value.slice.injEq, and_true] at hcs
    obtain ⟨rfl, rfl, rfl⟩ := hcs
    refine .inr ⟨a, rfl, hl, hm, fun i him j f hj => ?_⟩
    have him' : i < m := by rw [hmm]; split <;> omega
    obtain ⟨row, hrow, htr⟩ := hi i him'
    rw [hC] at hrow
    obtain ⟨-, hlen, hat⟩ := World.cells?_some hrow
    obtain ⟨ys, k, -, -, -, hyl, hall⟩ := DataW.trod_struct he htr
    have hjl : j < fs.size := (Array.getElem?_eq_some_iff.1 hj).1
    obtain ⟨v, hv⟩ : ∃ v, row[j]? = some v := ⟨row[j]'(by omega), List.getElem?_eq_getElem (by omega)⟩
    obtain ⟨y, hy⟩ : ∃ y, ys[j]? = some y := ⟨ys[j]'(by omega), List.getElem?_eq_getElem (by omega)⟩
    have hthis := hall j f hj
    rw [(hone_of hone j f hj).1, (hone_of hone j f hj).2, hy, List.take_one, List.head?_drop, hv] at hthis
    refine ⟨v, k, y, ?_, hthis⟩
    rw [← Go.Deep.add_add, hat j hjl]
    exact hv

/-- A slice of structs of two integers. -/
theorem open_pairs {t e : TypeId} {f0 f1 : Field} {p : Option Addr} {len ca : Nat} {d : DataW H} {pl : List MemPlace} (ht : P.underlying t = some (.slice e)) (he : P.underlying e = some (.struct #[f0, f1]))
    (hone : oneCellFields P #[f0, f1] = true) (hC : P.cellsOf e = 2) (k0 : P.underlying f0.type = some (.int .i64)) (k1 : P.underlying f1.type = some (.int .i64))
    (h : DataW.Trod enc P w base spare held t (.slice p len ca) d pl) :
    ∃ xs : List (Int × Int), xs.length = len ∧ len ≤ ca ∧ ca ≤ maxLen ∧ (∀ x ∈ xs, (Lit.int .i64 x.1).wf = true ∧ (Lit.int .i64 x.2).wf = true) ∧ (len ≤ 1099511627776 → PairsV w p xs) := by
  rcases slice_fields ht he hone hC h with ⟨rfl, rfl, rfl⟩ | ⟨a, rfl, hl, hm, hf⟩
  · exact ⟨[], rfl, Nat.le_refl _, Nat.zero_le _, fun x hx => absurd hx (by simp), fun h => ⟨h, .inl rfl⟩⟩
  · have h0 : ∀ i, i < len → ∃ x y : Int, w.cell? (a.add (i * 2)) = some (.int .i64 x) ∧ w.cell? (a.add (i * 2 + 1)) = some (.int .i64 y) ∧ (Lit.int .i64 x).wf = true ∧ (Lit.int .i64 y).wf = true := by
      intro i hi
      obtain ⟨v, n, y, hc, htr⟩ := hf i hi 0 f0 rfl
      obtain ⟨v2, n2, y2, hc2, htr2⟩ := hf i hi 1 f1 rfl
      obtain ⟨x, hx, _, hw⟩ := DataW.trod_int k0 htr
      obtain ⟨x2, hx2, _, hw2⟩ := DataW.trod_int k1 htr2
      simp only [List.cons.injEq, and_true] at hx hx2
      subst hx; subst hx2
      exact ⟨x, x2, hc, hc2, hw, hw2⟩
    have hall : ∃ xs : List (Int × Int), xs.length = len ∧ ∀ i, i < len → w.cell? (a.add (i * 2)) = some (.int .i64 (xs.getD i (0, 0)).1) ∧ w.cell? (a.add (i * 2 + 1)) = some (.int .i64 (xs.getD i (0, 0)).2) ∧
        (Lit.int .i64 (xs.getD i (0, 0)).1).wf = true ∧ (Lit.int .i64 (xs.getD i (0, 0)).2).wf = true := by
      clear h hf hl
      induction len with
      | zero => exact ⟨[], rfl, fun i hi => absurd hi (Nat.not_lt_zero _)⟩
      | succ n ih =>
        obtain ⟨xs, hx, hx2⟩ := ih (fun i hi => h0 i (Nat.lt_succ_of_lt hi))
        obtain ⟨x, y, h1, h2, h3, h4⟩ := h0 n (Nat.lt_succ_self n)
        refine ⟨xs ++ [(x, y)], by simp [hx], fun i hi => ?_⟩
        by_cases hin : i < n
        · have : (xs ++ [(x, y)]).getD i (0, 0) = xs.getD i (0, 0) := by
            rw [List.getD_eq_getElem?_getD, List.getD_eq_getElem?_getD, List.getElem?_append_left (by omega)]
          rw [this]; exact hx2 i hin
        · obtain rfl : i = n := by omega
          have : (xs ++ [(x, y)]).getD i (0, 0) = (x, y) := by
            rw [List.getD_eq_getElem?_getD, List.getElem?_append_right (by omega), hx, Nat.sub_self]; rfl
          rw [this]; exact ⟨h1, h2, h3, h4⟩
    obtain ⟨xs, hx, hx2⟩ := hall
    refine ⟨xs, hx, hl, hm, fun x hxm => ?_, fun hb => ⟨by rw [hx]; exact hb, ?_⟩⟩
    · obtain ⟨i, hi, rfl⟩ := List.getElem_of_mem hxm
      have := (hx2 i (by omega)).2.2
      rw [List.getD_eq_getElem?_getD, List.getElem?_eq_getElem hi] at this
      exact this
    · by_cases hz : len = 0
      · left; exact List.length_eq_zero_iff.1 (hx.trans hz)
      · right
        obtain ⟨g, off, spot⟩ := a
        obtain ⟨hs, hg⟩ := cell_at (hx2 0 (by omega)).1
        simp only [Addr.add] at hs hg
        subst hs
        simp only [add_none] at hx2
        exact ⟨g, off, rfl, hg, fun i hi => ⟨(hx2 i (by omega)).1, (hx2 i (by omega)).2.1⟩⟩

end
end Go.Proofs.YtclhglickeoocaaGreatDoor
