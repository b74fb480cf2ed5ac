import Derived.Test.YtggcnnpklkmeoaaGreatDoorWB
import Derived.Test.YtggcnnpklkmeoaaGreatDoorWA
import Derived.Deep.Slices
import Derived.Deep.Fields
import Derived.ChangeSame
import Derived.OpenShut
import Derived.Lib.SmallJoins
section
namespace Go.Proofs.YtggcnnpklkmeoaaGreatDoor
open Go.RowKit Go Go.ChangeShapes Go.WideShapes Go.Deep

/-- What is known of nets whose columns may be too many. -/
def NetsS (w : World) (p : Option Addr) (xs : List (Int × List Int)) : Prop :=
  xs = [] ∨ ∃ g off, p = some ⟨g, off, none⟩ ∧ g < w.heap.size ∧ ∀ i, i < xs.length → ∃ q c, w.cell? ⟨g, off + i * 2 + 1, none⟩ = some (.slice q (xs.getD i (0, [])).2.length c)

theorem NetsS.at {w : World} {p : Option Addr} {xs : List (Int × List Int)} (h : NetsS w p xs) {i : Nat} (hi : i < xs.length) :
    ∃ g off, p = some ⟨g, off, none⟩ ∧ g < w.heap.size ∧ ∃ q c, w.cell? ⟨g, off + i * 2 + 1, none⟩ = some (.slice q (xs.getD i (0, [])).2.length c) := by
  rcases h with h | ⟨g, off, h1, h2, h3⟩
  · rw [h] at hi; exact absurd hi (Nat.not_lt_zero _)
  · exact ⟨g, off, h1, h2, h3 i hi⟩

theorem NetsS.below {w w' : World} {p : Option Addr} {xs : List (Int × List Int)} (h : NetsS w p xs) (hb : Below w.heap.size w w') : NetsS w' p xs := by
  rcases h with h | ⟨g, off, h1, h2, h3⟩
  · exact .inl h
  · refine .inr ⟨g, off, h1, Nat.lt_of_lt_of_le h2 hb.size, fun i hi => ?_⟩
    obtain ⟨q, c, h4⟩ := h3 i hi
    exact ⟨q, c, (hb.cell (p := ⟨g, off + i * 2 + 1, none⟩) h2).trans h4⟩

/-! Arguments that are slices of structs of integers, and of nets, as a statement's frame hands them over. -/
section
variable {H : Type} {enc : TypeId × Value → H} {P : Program} {w : World} {base : Nat} {spare : Nat → Bool} {held : Bool}

/-- A cell that is there says that its address has no spot and stands in the heap. -/
theorem cell_at {w : World} {a : Addr} {v : Value} (h : w.cell? a = some v) : a.spot = none ∧ a.block < w.heap.size := by
  unfold World.cell? at h
  split at h
  · rename_i c e s hb
    refine ⟨?_, ?_⟩
    · split at h
      · cases h
      · rename_i hs; simpa using hs
    · exact (Array.getElem?_eq_some_iff.1 hb).1
  · cases h

/-- Element i of a slice of structs, its field j. -/
theorem slice_fields {t e : TypeId} {fs : Array Field} {p : Option Addr} {len ca : Nat} {d : DataW H} {pl : List MemPlace} (ht : P.underlying t = some (.slice e)) (he : P.underlying e = some (.struct fs))
    (hone : oneCellFields P fs = true) (hC : P.cellsOf e = fs.size) (h : DataW.Trod enc P w base spare held t (.slice p len ca) d pl) :
    (p = none ∧ len = 0 ∧ ca = 0) ∨ ∃ a, p = some a ∧ len ≤ ca ∧ ca ≤ maxLen ∧ ∀ i, i < len → ∀ (j : Nat) (f : Field), fs[j]? = some f →
      ∃ (v : Value) (n : Nat) (y : DataW H × List MemPlace), w.cell? (a.add (i * fs.size + j)) = some v ∧ DataW.trod enc P w base spare held n f.type [v] = some y := by
  obtain ⟨fuel, h⟩ := h
  rcases open_slice ht h with ⟨hcs, _⟩ | ⟨a, len2, ca2, m, n, D, Pl, hcs, hb, hl, hm, hmm, hx, hi⟩
  · simp only [Value.cells, List.cons.injEq, Value.slice.injEq, and_true] at hcs
    exact .inl hcs
  · simp only [Value.cells, List.cons.injEq, Value.slice.injEq, and_true] at hcs
    obtain ⟨rfl, rfl, rfl⟩ := hcs
    refine .inr ⟨a, rfl, hl, hm, fun i him j f hj => ?_⟩
    have him' : i < m := by rw [hmm]; split <;> omega
    obtain ⟨row, hrow, htr⟩ := hi i him'
    rw [hC] at hrow
    obtain ⟨-, hlen, hat⟩ := World.cells?_some hrow
    obtain ⟨ys, k, -, -, -, hyl, hall⟩ := DataW.trod_struct he htr
    have hjl : j < fs.size := (Array.getElem?_eq_some_iff.1 hj).1
    obtain ⟨v, hv⟩ : ∃ v, row[j]? = some v := ⟨row[j]'(by omega), List.getElem?_eq_getElem (by omega)⟩
    obtain ⟨y, hy⟩ : ∃ y, ys[j]? = some y := ⟨ys[j]'(by omega), List.getElem?_eq_getElem (by omega)⟩
    have hthis := hall j f hj
    rw [(hone_of hone j f hj).1, (hone_of hone j f hj).2, hy, List.take_one, List.head?_drop, hv] at hthis
    refine ⟨v, k, y, ?_, hthis⟩
    rw [← Go.Deep.add_add, hat j hjl]
    exact hv

/-- A slice of structs of two integers. -/
theorem open_pairs {t e : TypeId} {f0 f1 : Field} {p : Option Addr} {len ca : Nat} {d : DataW H} {pl : List MemPlace} (ht : P.underlying t = some (.slice e)) (he : P.underlying e = some (.struct #[f0, f1]))
    (hone : oneCellFields P #[f0, f1] = true) (hC : P.cellsOf e = 2) (k0 : P.underlying f0.type = some (.int .i64)) (k1 : P.underlying f1.type = some (.int .i64))
    (h : DataW.Trod enc P w base spare held t (.slice p len ca) d pl) :
    ∃ xs : List (Int × Int), xs.length = len ∧ len ≤ ca ∧ ca ≤ maxLen ∧ (∀ x ∈ xs, (Lit.int .i64 x.1).wf = true ∧ (Lit.int .i64 x.2).wf = true) ∧ (len ≤ 1099511627776 → PairsV w p xs) := by
  rcases slice_fields ht he hone hC h with ⟨rfl, rfl, rfl⟩ | ⟨a, rfl, hl, hm, hf⟩
  · exact ⟨[], rfl, Nat.le_refl _, Nat.zero_le _, fun x hx => absurd hx (by simp), fun h => ⟨h, .inl rfl⟩⟩
  · have h0 : ∀ i, i < len → ∃ x y : Int, w.cell? (a.add (i * 2)) = some (.int .i64 x) ∧ w.cell? (a.add (i * 2 + 1)) = some (.int .i64 y) ∧ (Lit.int .i64 x).wf = true ∧ (Lit.int .i64 y).wf = true := by
      intro i hi
      obtain ⟨v, n, y, hc, htr⟩ := hf i hi 0 f0 rfl
      obtain ⟨v2, n2, y2, hc2, htr2⟩ := hf i hi 1 f1 rfl
      obtain ⟨x, hx, _, hw⟩ := DataW.trod_int k0 htr
      obtain ⟨x2, hx2, _, hw2⟩ := DataW.trod_int k1 htr2
      simp only [List.cons.injEq, and_true] at hx hx2
      subst hx; subst hx2
      exact ⟨x, x2, hc, hc2, hw, hw2⟩
    have hall : ∃ xs : List (Int × Int), xs.length = len ∧ ∀ i, i < len → w.cell? (a.add (i * 2)) = some (.int .i64 (xs.getD i (0, 0)).1) ∧ w.cell? (a.add (i * 2 + 1)) = some (.int .i64 (xs.getD i (0, 0)).2) ∧
        (Lit.int .i64 (xs.getD i (0, 0)).1).wf = true ∧ (Lit.int .i64 (xs.getD i (0, 0)).2).wf = true := by
      clear h hf hl
      induction len with
      | zero => exact ⟨[], rfl, fun i hi => absurd hi (Nat.not_lt_zero _)⟩
      | succ n ih =>
        obtain ⟨xs, hx, hx2⟩ := ih (fun i hi => h0 i (Nat.lt_succ_of_lt hi))
        obtain ⟨x, y, h1, h2, h3, h4⟩ := h0 n (Nat.lt_succ_self n)
        refine ⟨xs ++ [(x, y)], by simp [hx], fun i hi => ?_⟩
        by_cases hin : i < n
        · have : (xs ++ [(x, y)]).getD i (0, 0) = xs.getD i (0, 0) := by
            rw [List.getD_eq_getElem?_getD, List.getD_eq_getElem?_getD, List.getElem?_append_left (by omega)]
          rw [this]; exact hx2 i hin
        · obtain rfl : i = n := by omega
          have : (xs ++ [(x, y)]).getD i (0, 0) = (x, y) := by
            rw [List.getD_eq_getElem?_getD, List.getElem?_append_right (by omega), hx, Nat.sub_self]; rfl
          rw [this]; exact ⟨h1, h2, h3, h4⟩
    obtain ⟨xs, hx, hx2⟩ := hall
    refine ⟨xs, hx, hl, hm, fun x hxm => ?_, fun hb => ⟨by rw [hx]; exact hb, ?_⟩⟩
    · obtain ⟨i, hi, rfl⟩ := List.getElem_of_mem hxm
      have := (hx2 i (by omega)).2.2
      rw [List.getD_eq_getElem?_getD, List.getElem?_eq_getElem hi] at this
      exact this
    · by_cases hz : len = 0
      · left; exact List.length_eq_zero_iff.1 (hx.trans hz)
      · right
        obtain ⟨g, off, spot⟩ := a
        obtain ⟨hs, hg⟩ := cell_at (hx2 0 (by omega)).1
        simp only [Addr.add] at hs hg
        subst hs
        simp only [add_none] at hx2
        exact ⟨g, off, rfl, hg, fun i hi => ⟨(hx2 i (by omega)).1, (hx2 i (by omega)).2.1⟩⟩

/-- A slice of integers. -/
theorem open_intv {t e : TypeId} {p : Option Addr} {len ca : Nat} {x : DataW H × List MemPlace} {fuel : Nat} (ht : P.underlying t = some (.slice e)) (he : P.underlying e = some (.int .i64)) (hc : P.cellsOf e = 1)
    (h : DataW.trod enc P w base spare held fuel t [.slice p len ca] = some x) :
    ∃ xs : List Int, xs.length = len ∧ len ≤ ca ∧ ca ≤ maxLen ∧ (∀ x ∈ xs, (Lit.int .i64 x).wf = true) ∧ (len ≤ 1099511627776 → IntV w p xs) := by
  rcases open_ints ht he hc h with ⟨hcs, _⟩ | ⟨a, len2, ca2, zs, hcs, hb, hl, hm, hz, hx, hcell, hw⟩
  · simp only [List.cons.injEq, Value.slice.injEq, and_true] at hcs
    obtain ⟨rfl, rfl, rfl⟩ := hcs
    exact ⟨[], rfl, Nat.le_refl _, Nat.zero_le _, fun x hx => absurd hx (by simp), fun h => ⟨h, .inl rfl⟩⟩
  · simp only [List.cons.injEq, Value.slice.injEq, and_true] at hcs
    obtain ⟨rfl, rfl, rfl⟩ := hcs
    have hzl : len ≤ zs.length := by rw [hz]; split <;> omega
    have hlen : (zs.take len).length = len := by rw [List.length_take]; omega
    refine ⟨zs.take len, hlen, hl, hm, fun x hx => hw x (List.mem_of_mem_take hx), fun hb => ⟨by rw [hlen]; exact hb, ?_⟩⟩
    by_cases h0 : len = 0
    · left; rw [h0]; rfl
    · right
      obtain ⟨g, off, spot⟩ := a
      obtain ⟨hs, hg⟩ := cell_at (hcell 0 (by omega))
      simp only [Addr.add] at hs hg
      subst hs
      refine ⟨g, off, rfl, hg, fun i hi => ?_⟩
      rw [hlen] at hi
      have := hcell i (by omega)
      rw [add_none] at this
      rw [List.getD_eq_getElem?_getD, List.getElem?_take, if_pos hi, ← List.getD_eq_getElem?_getD]
      exact this

/-- What is laid of a slice's type is a slice. -/
theorem slice_of {t e : TypeId} {n : Nat} {v : Value} {y : DataW H × List MemPlace} (ht : P.underlying t = some (.slice e)) (h : DataW.trod enc P w base spare held n t [v] = some y) : ∃ p l c, v = .slice p l c := by
  rcases open_slice ht h with ⟨hcs, _⟩ | ⟨a, len2, ca2, m, n, D, Pl, hcs, _⟩
  · exact ⟨_, _, _, (List.cons.inj hcs).1⟩
  · exact ⟨_, _, _, (List.cons.inj hcs).1⟩

/-- A slice of nets: an integer and a slice of integers each. -/
theorem open_nets {t e : TypeId} {f0 f1 : Field} {p : Option Addr} {len ca : Nat} {d : DataW H} {pl : List MemPlace} {e1 : TypeId} (ht : P.underlying t = some (.slice e)) (he : P.underlying e = some (.struct #[f0, f1]))
    (hone : oneCellFields P #[f0, f1] = true) (hC : P.cellsOf e = 2) (k0 : P.underlying f0.type = some (.int .i64)) (k1 : P.underlying f1.type = some (.slice e1)) (k2 : P.underlying e1 = some (.int .i64)) (k3 : P.cellsOf e1 = 1)
    (hslice : ∀ {n v y}, DataW.trod enc P w base spare held n f1.type [v] = some y → ∃ p l c, v = .slice p l c)
    (h : DataW.Trod enc P w base spare held t (.slice p len ca) d pl) :
    ∃ xs : List (Int × List Int), xs.length = len ∧ len ≤ ca ∧ ca ≤ maxLen ∧ (∀ x ∈ xs, (Lit.int .i64 x.1).wf = true ∧ x.2.length ≤ maxLen ∧ ∀ c ∈ x.2, (Lit.int .i64 c).wf = true) ∧
      NetsS w p xs ∧ (len ≤ 1099511627776 → (∀ x ∈ xs, x.2.length ≤ 1099511627776) → NetsV w p xs) := by
  rcases slice_fields ht he hone hC h with ⟨rfl, rfl, rfl⟩ | ⟨a, rfl, hl, hm, hf⟩
  · exact ⟨[], rfl, Nat.le_refl _, Nat.zero_le _, fun x hx => absurd hx (by simp), .inl rfl, fun h _ => ⟨h, .inl rfl⟩⟩
  · let Q : Nat → Int × List Int → Prop := fun i z => w.cell? (a.add (i * 2)) = some (.int .i64 z.1) ∧ (Lit.int .i64 z.1).wf = true ∧
      ∃ q c, w.cell? (a.add (i * 2 + 1)) = some (.slice q z.2.length c) ∧ z.2.length ≤ maxLen ∧ (∀ c ∈ z.2, (Lit.int .i64 c).wf = true) ∧ (z.2.length ≤ 1099511627776 → IntV w q z.2)
    have h0 : ∀ i, i < len → ∃ z, Q i z := by
      intro i hi
      obtain ⟨v, n, y, hc, htr⟩ := hf i hi 0 f0 rfl
      obtain ⟨v2, n2, y2, hc2, htr2⟩ := hf i hi 1 f1 rfl
      obtain ⟨x, hx, _, hw⟩ := DataW.trod_int k0 htr
      obtain ⟨q, l, c, rfl⟩ := hslice htr2
      obtain ⟨zs, hz, hlc, hcm, hzw, hzi⟩ := open_intv k1 k2 k3 htr2
      simp only [List.cons.injEq, and_true] at hx
      subst hx
      subst hz
      exact ⟨(x, zs), hc, hw, q, c, hc2, Nat.le_trans hlc hcm, hzw, hzi⟩
    have hall : ∃ xs : List (Int × List Int), xs.length = len ∧ ∀ i, i < len → Q i (xs.getD i (0, [])) := by
      clear h hf hl
      clear_value Q
      induction len with
      | zero => exact ⟨[], rfl, fun i hi => absurd hi (Nat.not_lt_zero _)⟩
      | succ n ih =>
        obtain ⟨xs, hx, hx2⟩ := ih (fun i hi => h0 i (Nat.lt_succ_of_lt hi))
        obtain ⟨z, h1⟩ := h0 n (Nat.lt_succ_self n)
        refine ⟨xs ++ [z], by simp [hx], fun i hi => ?_⟩
        by_cases hin : i < n
        · have : (xs ++ [z]).getD i (0, []) = xs.getD i (0, []) := by
            rw [List.getD_eq_getElem?_getD, List.getD_eq_getElem?_getD, List.getElem?_append_left (by omega)]
          rw [this]; exact hx2 i hin
        · obtain rfl : i = n := by omega
          have : (xs ++ [z]).getD i (0, []) = z := by
            rw [List.getD_eq_getElem?_getD, List.getElem?_append_right (by omega), hx, Nat.sub_self]; rfl
          rw [this]; exact h1
    obtain ⟨xs, hx, hx2⟩ := hall
    refine ⟨xs, hx, hl, hm, fun x hxm => ?_, ?_, fun hb hb2 => ⟨by rw [hx]; exact hb, ?_⟩⟩
    · obtain ⟨i, hi, rfl⟩ := List.getElem_of_mem hxm
      obtain ⟨_, q1, _, _, _, q2, q3, _⟩ := hx2 i (by omega)
      rw [List.getD_eq_getElem?_getD, List.getElem?_eq_getElem hi] at q1 q2 q3
      exact ⟨q1, q2, q3⟩
    · by_cases hz : len = 0
      · left; exact List.length_eq_zero_iff.1 (hx.trans hz)
      · right
        obtain ⟨g, off, spot⟩ := a
        obtain ⟨hs, hg⟩ := cell_at (hx2 0 (by omega)).1
        simp only [Addr.add] at hs hg
        subst hs
        refine ⟨g, off, rfl, hg, fun i hi => ?_⟩
        obtain ⟨q0, _, q, c, q1, _⟩ := hx2 i (by omega)
        rw [add_none] at q1
        exact ⟨q, c, q1⟩
    · by_cases hz : len = 0
      · left; exact List.length_eq_zero_iff.1 (hx.trans hz)
      · right
        obtain ⟨g, off, spot⟩ := a
        obtain ⟨hs, hg⟩ := cell_at (hx2 0 (by omega)).1
        simp only [Addr.add] at hs hg
        subst hs
        refine ⟨g, off, rfl, hg, fun i hi => ?_⟩
        obtain ⟨q0, _, q, c, q1, _, _, q2⟩ := hx2 i (by omega)
        rw [add_none] at q0 q1
        refine ⟨q0, q, c, q1, q2 (hb2 _ ?_)⟩
        rw [List.getD_eq_getElem?_getD, List.getElem?_eq_getElem hi]
        exact List.getElem_mem hi
end
end Go.Proofs.YtggcnnpklkmeoaaGreatDoor
end

section
namespace Go.Proofs.YtggcnnpklkmeoaaGreatDoor
open Go.RowKit Go Go.ChangeShapes Go.WideShapes Go.Deep

/-! Arguments that are layouts, and claims, as a statement's frame hands them over. -/
section
variable {H : Type} {enc : TypeId × Value → H} {P : Program} {w : World} {base : Nat} {spare : Nat → Bool} {held : Bool}

/-- A cell that is a slice of integers. -/
theorem open_cell {t e : TypeId} {n : Nat} {v : Value} {y : DataW H × List MemPlace} (ht : P.underlying t = some (.slice e)) (he : P.underlying e = some (.int .i64)) (hc : P.cellsOf e = 1)
    (h : DataW.trod enc P w base spare held n t [v] = some y) : ∃ (xs : List Int) (q : Option Addr) (c : Nat), v = .slice q xs.length c ∧ (xs.length ≤ 1099511627776 → IntV w q xs) ∧ xs.length ≤ c ∧ c ≤ maxLen := by
  obtain ⟨q, l, c, rfl⟩ := slice_of ht h
  obtain ⟨xs, rfl, h1, h2, _, h3⟩ := open_intv ht he hc h
  exact ⟨xs, q, c, rfl, h3, h1, h2⟩

/-- A layout by value. -/
theorem open_lay {r : Reach} {b0 : Nat} {t e : TypeId} {f0 f1 : Field} {v : Value} {d : DataW H} {pl : List MemPlace} (hs : P.underlying t = some (.struct #[f0, f1])) (hone : oneCellFields P #[f0, f1] = true) (hC : P.cellsOf t = 2)
    (k0 : P.underlying f0.type = some (.slice e)) (k1 : P.underlying f1.type = some (.slice e)) (k2 : P.underlying e = some (.int .i64)) (k3 : P.cellsOf e = 1)
    (hv : Value.okWide P w r b0 t v) (h : DataW.Trod enc P w base spare held t v d pl) :
    ∃ (y1 y2 : List Int) (c1 c2 : Nat) (q1 q2 : Option Addr), v = .agg #[.slice q1 y1.length c1, .slice q2 y2.length c2] ∧ (y1.length ≤ 1099511627776 → IntV w q1 y1) ∧ (y2.length ≤ 1099511627776 → IntV w q2 y2) ∧
      y1.length ≤ c1 ∧ y2.length ≤ c2 ∧ c1 ≤ maxLen ∧ c2 ≤ maxLen := by
  obtain ⟨v0, v1, x0, x1, n, rfl, _, _, h0, h1⟩ := Go.Joins.open_agg2 hs hone hC hv h
  obtain ⟨y1, q1, c1, rfl, a1, a2, a3⟩ := open_cell k0 k2 k3 h0
  obtain ⟨y2, q2, c2, rfl, b1, b2, b3⟩ := open_cell k1 k2 k3 h1
  exact ⟨y1, y2, c1, c2, q1, q2, rfl, a1, b1, a2, b2, a3, b3⟩

/-- A layout with a list behind it, by value. -/
theorem open_claim {r : Reach} {b0 : Nat} {t e : TypeId} {f0 f1 g0 g1 : Field} {v : Value} {d : DataW H} {pl : List MemPlace} (hs : P.underlying t = some (.struct #[f0, f1])) (o0 : f0.offset = 0) (o1 : f1.offset = 2) (n0 : P.cellsOf f0.type = 2) (n1 : P.cellsOf f1.type = 1) (hC : P.cellsOf t = 3)
    (hs2 : P.underlying f0.type = some (.struct #[g0, g1])) (hone : oneCellFields P #[g0, g1] = true)
    (k0 : P.underlying g0.type = some (.slice e)) (k1 : P.underlying g1.type = some (.slice e)) (kc : P.underlying f1.type = some (.slice e)) (k2 : P.underlying e = some (.int .i64)) (k3 : P.cellsOf e = 1)
    (hv : Value.okWide P w r b0 t v) (h : DataW.Trod enc P w base spare held t v d pl) :
    ∃ (y1 y2 y3 : List Int) (c1 c2 c3 : Nat) (q1 q2 q3 : Option Addr), v = .agg #[.slice q1 y1.length c1, .slice q2 y2.length c2, .slice q3 y3.length c3] ∧
      (y1.length ≤ 1099511627776 → IntV w q1 y1) ∧ (y2.length ≤ 1099511627776 → IntV w q2 y2) ∧ (y3.length ≤ 1099511627776 → IntV w q3 y3) ∧
      y1.length ≤ c1 ∧ y2.length ≤ c2 ∧ y3.length ≤ c3 ∧ c1 ≤ maxLen ∧ c2 ≤ maxLen ∧ c3 ≤ maxLen := by
  obtain ⟨cs, rfl, hsz⟩ := okWide_struct hs hv
  rw [hC] at hsz
  obtain ⟨l⟩ := cs
  match l, hsz with
  | [a, b, c], _ =>
    obtain ⟨fuel, hf⟩ := h
    obtain ⟨xs, n, -, -, -, hxl, hall⟩ := DataW.trod_struct hs hf
    have hx2 : xs.length = 2 := hxl
    have h0 := hall 0 f0 rfl
    have h1 := hall 1 f1 rfl
    rw [o0, n0, List.getElem?_eq_getElem (by omega)] at h0
    rw [o1, n1, List.getElem?_eq_getElem (by omega)] at h1
    have h0' : DataW.trod enc P w base spare held n f0.type [a, b] = some xs[0] := h0
    have h1' : DataW.trod enc P w base spare held n f1.type [c] = some xs[1] := h1
    obtain ⟨ys, m, -, -, -, hyl, hall2⟩ := DataW.trod_struct hs2 h0'
    have hy2 : ys.length = 2 := hyl
    have i0 := hall2 0 g0 rfl
    have i1 := hall2 1 g1 rfl
    rw [(hone_of hone 0 g0 rfl).1, (hone_of hone 0 g0 rfl).2, List.getElem?_eq_getElem (by omega)] at i0
    rw [(hone_of hone 1 g1 rfl).1, (hone_of hone 1 g1 rfl).2, List.getElem?_eq_getElem (by omega)] at i1
    have i0' : DataW.trod enc P w base spare held m g0.type [a] = some ys[0] := i0
    have i1' : DataW.trod enc P w base spare held m g1.type [b] = some ys[1] := i1
    obtain ⟨y1, q1, c1, rfl, a1, a2, a3⟩ := open_cell k0 k2 k3 i0'
    obtain ⟨y2, q2, c2, rfl, b1, b2, b3⟩ := open_cell k1 k2 k3 i1'
    obtain ⟨y3, q3, c3, rfl, d1, d2, d3⟩ := open_cell kc k2 k3 h1'
    exact ⟨y1, y2, y3, c1, c2, c3, q1, q2, q3, rfl, a1, b1, d1, a2, b2, d2, a3, b3, d3⟩
end
end Go.Proofs.YtggcnnpklkmeoaaGreatDoor
end

