import Derived.Test.YtggcnnpklkmeoaaGreatDoorWA
section
namespace Go.Proofs.YtggcnnpklkmeoaaGreatDoor
open Go.RowKit Go

/-- A net by value: its shaft, its columns. -/
def NetV (w : World) (v : Value) (x : Int × List Int) : Prop := ∃ q c, v = .agg #[.int .i64 x.1, .slice q x.2.length c] ∧ IntV w q x.2

theorem NetV.below {w w' : World} {v : Value} {x : Int × List Int} (h : NetV w v x) (hb : Below w.heap.size w w') : NetV w' v x := by
  obtain ⟨q, c, h1, h2⟩ := h
  exact ⟨q, c, h1, h2.below hb⟩

def extStep (lh : Int × Int) (p : Int) : Int × Int := (if lh.1 < 0 ∨ p < lh.1 then p else lh.1, if lh.2 < p then p else lh.2)
/-- The extent of some columns in an order. -/
def extOf (ord cols : List Int) : Int × Int := (cols.map fun c => posOf c ord).foldl extStep (-1, -1)

theorem extOf_succ (ord : List Int) {cols : List Int} {k : Nat} (h : k < cols.length) : extOf ord (cols.take (k + 1)) = extStep (extOf ord (cols.take k)) (posOf (cols.getD k 0) ord) := by
  unfold extOf
  rw [int_take h, List.map_append, List.foldl_append]; rfl

theorem ext_bd (ord : List Int) (cols : List Int) : -1 ≤ (extOf ord cols).1 ∧ (extOf ord cols).1 ≤ ord.length ∧ -1 ≤ (extOf ord cols).2 ∧ (extOf ord cols).2 ≤ ord.length := by
  unfold extOf
  have : ∀ (l : List Int) (s : Int × Int), (-1 ≤ s.1 ∧ s.1 ≤ ord.length ∧ -1 ≤ s.2 ∧ s.2 ≤ ord.length) →
      (-1 ≤ ((l.map fun c => posOf c ord).foldl extStep s).1 ∧ ((l.map fun c => posOf c ord).foldl extStep s).1 ≤ ord.length ∧ -1 ≤ ((l.map fun c => posOf c ord).foldl extStep s).2 ∧ ((l.map fun c => posOf c ord).foldl extStep s).2 ≤ ord.length) := by
    intro l
    induction l with
    | nil => intro s h; exact h
    | cons c r ih =>
      intro s h
      rw [List.map_cons, List.foldl_cons]
      apply ih
      have hp := posFrom_le c ord 0
      have hp1 : -1 ≤ posOf c ord ∧ posOf c ord ≤ ord.length := by unfold posOf; omega
      unfold extStep
      dsimp only
      split <;> split <;> omega
  exact this cols (-1, -1) (by simp)

set_option maxHeartbeats 1600000 in
/-- Extent of the reference of chapter 7. -/
theorem bExtent_any (v : Value) (x : Int × List Int) (p : Option Addr) (ca : Nat) (ord : List Int) (w : World) (hv : NetV w v x) (ho : IntV w p ord) :
    Calls Tryz.prog 17 #[v, .slice p ord.length ca] w fun e w' => e = .returned (.tuple #[.int .i64 (extOf ord x.2).1, .int .i64 (extOf ord x.2).2]) ∧ Below w.heap.size w w' := by
  obtain ⟨q, c, rfl, hq⟩ := hv
  obtain ⟨sh, cols⟩ := x
  simp only at hq ⊢
  have hm := ho.1
  have hm2 := hq.1
  generalize hr : extOf ord cols = res
  have HR := Lib.hid hr
  clear hr
  go_enter Tryz.func17, Tryz.ntmps17
  go_wp2
  go_loop [6, 7, 8] (fun li hi ii => ∃ (k : Nat) (lo h : Int), k ≤ cols.length ∧ ii = .int .i64 k ∧ li = .int .i64 lo ∧ hi = .int .i64 h ∧ Hid (extOf ord (cols.take k) = (lo, h))) (fun _ _ ii => cols.length - (intOf ii).toNat)
  case atStart => exact ⟨0, -1, -1, Nat.zero_le _, rfl, rfl, rfl, Lib.hid rfl⟩
  case round =>
    obtain ⟨k, lo, h, hk, rfl, rfl, rfl, hrel⟩ := hrel
    by_cases h0 : k < cols.length
    · obtain ⟨g, o, rfl, hg, hc⟩ := hq.at (i := k) h0
      have hs := extOf_succ ord h0
      rw [hrel.out] at hs
      have hbd := ext_bd ord (cols.take k)
      rw [hrel.out] at hbd
      obtain ⟨b1, b2, b3, b4⟩ := hbd
      simp only at b1 b2 b3 b4
      generalize cols.getD k 0 = y at *
      have hpl := posFrom_le y ord 0
      have hp1 : -1 ≤ posOf y ord := by unfold posOf; omega
      have hp2 : posOf y ord < ord.length := by unfold posOf; omega
      have HPos := Lib.hid (fun W (h : IntV W p ord) => bPosition_any p ca ord y W h)
      have HO := Lib.hid ho
      generalize hpy : posOf y ord = py at *
      have HS := Lib.hid hs
      have HY := Lib.hid hpy
      clear hs hq ho hpl hpy
      have hnew : extOf ord (cols.take (k + 1)) = (if lo < 0 ∨ py < lo then py else lo, if h < py then py else h) := HS.out
      have HN := Lib.hid hnew
      clear hnew
      by_cases c1 : lo < 0
      · have hz : extOf ord (cols.take (k + 1)) = (py, if h < py then py else h) := by rw [HN.out, if_pos (.inl c1)]
        have HZ := Lib.hid hz
        clear hz
        go_wp2_with (go_at_call 46; refine (HPos.out _ (HO.out.below ((Below.refl _ _).alloc (Nat.le_refl _) _))).mono ?_; rintro e w' ⟨rfl, rfl⟩)
        go_round
        case rel => exact ⟨k + 1, py, (if h < py then py else h), by omega, by go_num, rfl, rfl, HZ⟩
        case measure => simp [intOf]; omega
      by_cases c2 : py < lo
      · have hz : extOf ord (cols.take (k + 1)) = (py, if h < py then py else h) := by rw [HN.out, if_pos (.inr c2)]
        have HZ := Lib.hid hz
        clear hz
        go_wp2_with (go_at_call 46; refine (HPos.out _ (HO.out.below ((Below.refl _ _).alloc (Nat.le_refl _) _))).mono ?_; rintro e w' ⟨rfl, rfl⟩)
        go_round
        case rel => exact ⟨k + 1, py, (if h < py then py else h), by omega, by go_num, rfl, rfl, HZ⟩
        case measure => simp [intOf]; omega
      · have hz : extOf ord (cols.take (k + 1)) = (lo, if h < py then py else h) := by rw [HN.out, if_neg (by omega)]
        have HZ := Lib.hid hz
        clear hz
        go_wp2_with (go_at_call 46; refine (HPos.out _ (HO.out.below ((Below.refl _ _).alloc (Nat.le_refl _) _))).mono ?_; rintro e w' ⟨rfl, rfl⟩)
        go_round
        case rel => exact ⟨k + 1, lo, (if h < py then py else h), by omega, by go_num, rfl, rfl, HZ⟩
        case measure => simp [intOf]; omega
    · obtain rfl : k = cols.length := by omega
      have hz : res = (lo, h) := by rw [← HR.out, ← hrel.out, List.take_length]
      subst hz
      clear hq ho HR
      go_wp2
      go_ret2
      exact ⟨rfl, (Below.refl _ _).alloc (Nat.le_refl _) _⟩
end Go.Proofs.YtggcnnpklkmeoaaGreatDoor
end

section
namespace Go.Proofs.YtggcnnpklkmeoaaGreatDoor
open Go.RowKit Go

/-- Does the extent of some columns contain a position? -/
def covB (ord cols : List Int) (p : Int) : Bool := decide ((extOf ord cols).1 ≤ p) && decide (p ≤ (extOf ord cols).2)

set_option maxHeartbeats 1600000 in
/-- covers of the reference of chapter 7. -/
theorem bCovers_any (v : Value) (x : Int × List Int) (p : Option Addr) (ca : Nat) (ord : List Int) (at_ : Int) (w : World) (hv : NetV w v x) (ho : IntV w p ord) :
    Calls Tryz.prog 51 #[v, .slice p ord.length ca, .int .i64 at_] w fun e w' => e = .returned (.bool (covB ord x.2 at_)) ∧ Below w.heap.size w w' := by
  have hb0 : ∀ o, Below w.heap.size w (w.alloc o) := fun o => (Below.refl _ _).alloc (Nat.le_refl _) _
  have hext := fun o => bExtent_any v x p ca ord (w.alloc o) (hv.below (hb0 o)) (ho.below (hb0 o))
  obtain ⟨q, c, rfl, hq⟩ := hv
  obtain ⟨sh, cols⟩ := x
  simp only at hq hext ⊢
  have hcov : covB ord cols at_ = (decide ((extOf ord cols).1 ≤ at_) && decide (at_ ≤ (extOf ord cols).2)) := rfl
  generalize extOf ord cols = lh at *
  obtain ⟨lo, h⟩ := lh
  simp only at hext hcov
  generalize covB ord cols at_ = res at *
  have HE := Lib.hid hext
  have HB0 := Lib.hid hb0
  clear hext hq ho hb0
  have HC := Lib.hid hcov
  clear hcov
  by_cases h1 : lo ≤ at_
  · by_cases h2 : at_ ≤ h
    · have hz : res = true := by rw [HC.out, decide_eq_true h1, decide_eq_true h2]; rfl
      have HZ := Lib.hid hz
      clear hz
      go_enter Tryz.func51, Tryz.ntmps51
      go_wp2_with (go_at_call 17; refine (HE.out _).mono ?_; rintro e w1 ⟨rfl, hb1⟩)
      go_ret
      exact ⟨bret HZ.out.symm, (HB0.out _).trans (hb1.mono (by simp))⟩
    · have hz : res = false := by rw [HC.out, decide_eq_true h1, decide_eq_false h2]; rfl
      have HZ := Lib.hid hz
      clear hz
      go_enter Tryz.func51, Tryz.ntmps51
      go_wp2_with (go_at_call 17; refine (HE.out _).mono ?_; rintro e w1 ⟨rfl, hb1⟩)
      go_ret
      exact ⟨bret (by rw [HZ.out]; exact decide_eq_false (by omega)), (HB0.out _).trans (hb1.mono (by simp))⟩
  · have hz : res = false := by rw [HC.out, decide_eq_false h1]; rfl
    have HZ := Lib.hid hz
    clear hz
    go_enter Tryz.func51, Tryz.ntmps51
    go_wp2_with (go_at_call 17; refine (HE.out _).mono ?_; rintro e w1 ⟨rfl, hb1⟩)
    go_ret
    exact ⟨bret HZ.out.symm, (HB0.out _).trans (hb1.mono (by simp))⟩

/-- Do two lists of columns meet at a position from k on, of n? -/
def meetFrom (ord a b : List Int) (k : Nat) : Nat → Bool
  | 0 => false
  | n + 1 => (covB ord a k && covB ord b k) || meetFrom ord a b (k + 1) n
def meetB (ord a b : List Int) : Bool := meetFrom ord a b 0 ord.length

set_option maxHeartbeats 1600000 in
/-- Meet of the reference of chapter 7. -/
theorem bMeet_any (v u : Value) (x y : Int × List Int) (p : Option Addr) (ca : Nat) (ord : List Int) (w : World) (hv : NetV w v x) (hu : NetV w u y) (ho : IntV w p ord) :
    Calls Tryz.prog 49 #[v, u, .slice p ord.length ca] w fun e w' => e = .returned (.bool (meetB ord x.2 y.2)) ∧ Below w.heap.size w w' := by
  have hm := ho.1
  have hcov : ∀ W (at_ : Int), Below w.heap.size w W → Calls Tryz.prog 51 #[v, .slice p ord.length ca, .int .i64 at_] W fun e w' => e = .returned (.bool (covB ord x.2 at_)) ∧ Below W.heap.size W w' :=
    fun W at_ h => bCovers_any v x p ca ord at_ W (hv.below h) (ho.below h)
  have hcov2 : ∀ W (at_ : Int), Below w.heap.size w W → Calls Tryz.prog 51 #[u, .slice p ord.length ca, .int .i64 at_] W fun e w' => e = .returned (.bool (covB ord y.2 at_)) ∧ Below W.heap.size W w' :=
    fun W at_ h => bCovers_any u y p ca ord at_ W (hu.below h) (ho.below h)
  obtain ⟨q, c, rfl, hq⟩ := hv
  obtain ⟨q2, c2, rfl, hq2⟩ := hu
  obtain ⟨sh, a⟩ := x
  obtain ⟨sh2, b⟩ := y
  simp only at hq hq2 hcov hcov2 ⊢
  generalize hr : meetB ord a b = res
  have hr2 : res = meetFrom ord a b 0 (ord.length - 0) := by rw [← hr]; rfl
  have HR := Lib.hid hr2
  have HC := Lib.hid hcov
  have HC2 := Lib.hid hcov2
  clear hr hr2 hq hq2 hcov hcov2 ho
  go_enter Tryz.func49, Tryz.ntmps49
  go_wp2
  have F1 : ((w.alloc (.cells #[.int .i64 sh, .slice q a.length c] 39)).alloc (.cells #[.int .i64 sh2, .slice q2 b.length c2] 39)).cell? ⟨w.heap.size, 0, none⟩ = some (.int .i64 sh) := by go_simp
  have F2 : ((w.alloc (.cells #[.int .i64 sh, .slice q a.length c] 39)).alloc (.cells #[.int .i64 sh2, .slice q2 b.length c2] 39)).cell? ⟨w.heap.size, 1, none⟩ = some (.slice q a.length c) := by go_simp
  have F3 : ((w.alloc (.cells #[.int .i64 sh, .slice q a.length c] 39)).alloc (.cells #[.int .i64 sh2, .slice q2 b.length c2] 39)).cell? ⟨w.heap.size + 1, 0, none⟩ = some (.int .i64 sh2) := by go_simp
  have F4 : ((w.alloc (.cells #[.int .i64 sh, .slice q a.length c] 39)).alloc (.cells #[.int .i64 sh2, .slice q2 b.length c2] 39)).cell? ⟨w.heap.size + 1, 1, none⟩ = some (.slice q2 b.length c2) := by go_simp
  have F5 : ((w.alloc (.cells #[.int .i64 sh, .slice q a.length c] 39)).alloc (.cells #[.int .i64 sh2, .slice q2 b.length c2] 39)).heap.size = w.heap.size + 2 := by simp
  have F6 : Below w.heap.size w ((w.alloc (.cells #[.int .i64 sh, .slice q a.length c] 39)).alloc (.cells #[.int .i64 sh2, .slice q2 b.length c2] 39)) := ((Below.refl _ _).alloc (Nat.le_refl _) _).alloc (by simp) _
  generalize (w.alloc (.cells #[.int .i64 sh, .slice q a.length c] 39)).alloc (.cells #[.int .i64 sh2, .slice q2 b.length c2] 39) = W0 at *
  have hcells : ∀ W, Below W0.heap.size W0 W → W.cell? ⟨w.heap.size, 0, none⟩ = some (.int .i64 sh) ∧ W.cell? ⟨w.heap.size, 1, none⟩ = some (.slice q a.length c) ∧ W.cell? ⟨w.heap.size + 1, 0, none⟩ = some (.int .i64 sh2) ∧ W.cell? ⟨w.heap.size + 1, 1, none⟩ = some (.slice q2 b.length c2) := by
    intro W h
    exact ⟨(h.cell (p := ⟨w.heap.size, 0, none⟩) (by rw [F5]; show w.heap.size < _; omega)).trans F1, (h.cell (p := ⟨w.heap.size, 1, none⟩) (by rw [F5]; show w.heap.size < _; omega)).trans F2,
      (h.cell (p := ⟨w.heap.size + 1, 0, none⟩) (by rw [F5]; show w.heap.size + 1 < _; omega)).trans F3, (h.cell (p := ⟨w.heap.size + 1, 1, none⟩) (by rw [F5]; show w.heap.size + 1 < _; omega)).trans F4⟩
  have HF := Lib.hid hcells
  have hle0 : ∀ W, Below W0.heap.size W0 W → Below w.heap.size w W := fun W h => F6.trans (h.mono (by rw [F5]; omega))
  have HL := Lib.hid hle0
  have hsz0 : ∀ W W', Below W0.heap.size W0 W → Below W.heap.size W W' → Below W0.heap.size W0 W' := fun W W' h k => h.trans (k.mono h.size)
  have HZ0 := Lib.hid hsz0
  clear F1 F2 F3 F4 F5 F6 hcells hle0 hsz0
  go_loopw [7] (fun ii wr => ∃ (k : Nat), k ≤ ord.length ∧ ii = .int .i64 k ∧ Hid (res = meetFrom ord a b k (ord.length - k)) ∧ Below W0.heap.size W0 wr) (fun ii _ => ord.length - (intOf ii).toNat)
  case atStart => exact ⟨0, Nat.zero_le _, rfl, HR, Below.refl _ _⟩
  case round =>
    obtain ⟨k, hk, rfl, hrel, hb⟩ := hrel
    by_cases h0 : k < ord.length
    · have hs : res = ((covB ord a k && covB ord b k) || meetFrom ord a b (k + 1) (ord.length - (k + 1))) := by
        rw [hrel.out, show ord.length - k = (ord.length - (k + 1)) + 1 by omega]; rfl
      have HS := Lib.hid hs
      clear hs
      obtain ⟨c1, c2', c3, c4⟩ := HF.out wr hb
      have K1 := Lib.hid (HC.out wr (k : Int) (HL.out wr hb))
      have K2 := Lib.hid (fun w1 (h : Below wr.heap.size wr w1) => HC2.out w1 (k : Int) (HL.out w1 (HZ0.out _ _ hb h)))
      have K3 := Lib.hid (fun w1 (h : Below wr.heap.size wr w1) => HF.out w1 (HZ0.out _ _ hb h))
      have HB := Lib.hid hb
      clear hb
      cases h1 : covB ord a k with
      | false =>
        have hz : res = meetFrom ord a b (k + 1) (ord.length - (k + 1)) := by rw [HS.out, h1]; rfl
        have HZ := Lib.hid hz
        clear hz
        go_wp2_with (go_at_call 51; refine K1.out.mono ?_; rintro e w1 ⟨rfl, hb1⟩)
        go_roundw
        case rel => exact ⟨k + 1, by omega, by go_num, HZ, HZ0.out _ _ HB.out hb1⟩
        case measure => simp [intOf]; omega
      | true =>
        cases h2 : covB ord b k with
        | false =>
          have hz : res = meetFrom ord a b (k + 1) (ord.length - (k + 1)) := by rw [HS.out, h1, h2]; rfl
          have HZ := Lib.hid hz
          clear hz
          go_wp2_with (first | (go_at_call 51; with_reducible refine K1.out.mono ?_; rintro e w1 ⟨rfl, hb1⟩; obtain ⟨d1, d2, d3, d4⟩ := K3.out _ hb1) | (go_at_call 51; refine (K2.out _ (by assumption)).mono ?_; rintro e w2 ⟨rfl, hb2⟩))
          go_roundw
          case rel => exact ⟨k + 1, by omega, by go_num, HZ, HZ0.out _ _ (HZ0.out _ _ HB.out (by assumption)) (by assumption)⟩
          case measure => simp [intOf]; omega
        | true =>
          have hz : res = true := by rw [HS.out, h1, h2]; rfl
          have HZ := Lib.hid hz
          clear hz
          go_wp2_with (first | (go_at_call 51; with_reducible refine K1.out.mono ?_; rintro e w1 ⟨rfl, hb1⟩; obtain ⟨d1, d2, d3, d4⟩ := K3.out _ hb1) | (go_at_call 51; refine (K2.out _ (by assumption)).mono ?_; rintro e w2 ⟨rfl, hb2⟩))
          go_ret
          exact ⟨bret HZ.out.symm, HL.out _ (HZ0.out _ _ (HZ0.out _ _ HB.out (by assumption)) (by assumption))⟩
    · obtain rfl : k = ord.length := by omega
      have hz : res = false := by rw [hrel.out, Nat.sub_self]; rfl
      have HZ := Lib.hid hz
      clear hz
      go_wp2
      go_ret
      exact ⟨bret HZ.out.symm, HL.out _ hb⟩
end Go.Proofs.YtggcnnpklkmeoaaGreatDoor
end

section
namespace Go.Proofs.YtggcnnpklkmeoaaGreatDoor
open Go.RowKit Go

/-- A slice at p reads as these nets. -/
def NetsV (w : World) (p : Option Addr) (xs : List (Int × List Int)) : Prop :=
  xs.length ≤ 1099511627776 ∧ (xs = [] ∨ ∃ g off, p = some ⟨g, off, none⟩ ∧ g < w.heap.size ∧
    ∀ i, i < xs.length → w.cell? ⟨g, off + i * 2, none⟩ = some (.int .i64 (xs.getD i (0, [])).1) ∧
      ∃ q c, w.cell? ⟨g, off + i * 2 + 1, none⟩ = some (.slice q (xs.getD i (0, [])).2.length c) ∧ IntV w q (xs.getD i (0, [])).2)

theorem NetsV.at {w : World} {p : Option Addr} {xs : List (Int × List Int)} (h : NetsV w p xs) {i : Nat} (hi : i < xs.length) :
    ∃ g off, p = some ⟨g, off, none⟩ ∧ g < w.heap.size ∧ w.cell? ⟨g, off + i * 2, none⟩ = some (.int .i64 (xs.getD i (0, [])).1) ∧
      ∃ q c, w.cell? ⟨g, off + i * 2 + 1, none⟩ = some (.slice q (xs.getD i (0, [])).2.length c) ∧ IntV w q (xs.getD i (0, [])).2 := by
  rcases h.2 with h | ⟨g, off, h1, h2, h3⟩
  · rw [h] at hi; exact absurd hi (Nat.not_lt_zero _)
  · exact ⟨g, off, h1, h2, (h3 i hi).1, (h3 i hi).2⟩

theorem NetsV.below {w w' : World} {p : Option Addr} {xs : List (Int × List Int)} (h : NetsV w p xs) (hb : Below w.heap.size w w') : NetsV w' p xs := by
  refine ⟨h.1, ?_⟩
  rcases h.2 with h | ⟨g, off, h1, h2, h3⟩
  · exact .inl h
  · refine .inr ⟨g, off, h1, Nat.lt_of_lt_of_le h2 hb.size, fun i hi => ?_⟩
    obtain ⟨a, q, c, b, d⟩ := h3 i hi
    exact ⟨(hb.cell (p := ⟨g, off + i * 2, none⟩) h2).trans a, q, c, (hb.cell (p := ⟨g, off + i * 2 + 1, none⟩) h2).trans b, d.below hb⟩

/-- The length of an order: of the first nets. -/
def lenOf (ord : List Int) : List (Int × List Int) → Int
  | [] => 0
  | n :: r => (extOf ord n.2).2 - (extOf ord n.2).1 + lenOf ord r

theorem lenOf_append (ord : List Int) (a b : List (Int × List Int)) : lenOf ord (a ++ b) = lenOf ord a + lenOf ord b := by
  induction a with
  | nil => simp [lenOf]
  | cons n r ih => simp only [List.cons_append, lenOf, ih]; omega

theorem nets_take {l : List (Int × List Int)} {k : Nat} (h : k < l.length) : l.take (k + 1) = l.take k ++ [l.getD k (0, [])] := by
  rw [List.take_add_one, List.getElem?_eq_getElem h, List.getD_eq_getElem?_getD, List.getElem?_eq_getElem h]; rfl
theorem nets_drop {l : List (Int × List Int)} {k : Nat} (h : k < l.length) : l.drop k = l.getD k (0, []) :: l.drop (k + 1) := by
  rw [List.drop_eq_getElem_cons h, List.getD_eq_getElem?_getD, List.getElem?_eq_getElem h]; rfl

theorem lenOf_succ (ord : List Int) {l : List (Int × List Int)} {k : Nat} (h : k < l.length) : lenOf ord (l.take (k + 1)) = lenOf ord (l.take k) + (extOf ord (l.getD k (0, [])).2).2 - (extOf ord (l.getD k (0, [])).2).1 := by
  rw [nets_take h, lenOf_append]; simp only [lenOf]; omega

theorem lenOf_bd (ord : List Int) : ∀ (l : List (Int × List Int)), -(((ord.length : Int) + 1) * l.length) ≤ lenOf ord l ∧ lenOf ord l ≤ ((ord.length : Int) + 1) * l.length
  | [] => by simp [lenOf]
  | n :: r => by
    have ih := lenOf_bd ord r
    have := ext_bd ord n.2
    have e : ((ord.length : Int) + 1) * ((n :: r).length : Int) = ((ord.length : Int) + 1) * r.length + ((ord.length : Int) + 1) := by
      rw [List.length_cons]; push_cast; rw [Int.mul_add]; omega
    rw [e]
    simp only [lenOf]
    omega

set_option maxHeartbeats 1600000 in
/-- Length of the reference of chapter 7. -/
theorem bLength_any (p q : Option Addr) (ca cb : Nat) (xs : List (Int × List Int)) (ord : List Int) (w : World) (hx : NetsV w p xs) (ho : IntV w q ord) (hl1 : xs.length ≤ 1000) (hl2 : ord.length ≤ 1000) :
    Calls Tryz.prog 18 #[.slice p xs.length ca, .slice q ord.length cb] w fun e w' => e = .returned (.int .i64 (lenOf ord xs)) ∧ Below w.heap.size w w' := by
  generalize hr : lenOf ord xs = res
  have HR := Lib.hid hr
  clear hr
  have HE := Lib.hid (fun W (v : Value) (x : Int × List Int) (h : Below w.heap.size w W) (hv : NetV W v x) => bExtent_any v x q cb ord W hv (ho.below h))
  clear ho
  go_enter Tryz.func18, Tryz.ntmps18
  go_wp2
  go_loopw [5, 6] (fun si ii wr => ∃ (k : Nat) (s : Int), k ≤ xs.length ∧ ii = .int .i64 k ∧ si = .int .i64 s ∧ Hid (lenOf ord (xs.take k) = s) ∧ Below w.heap.size w wr) (fun _ ii _ => xs.length - (intOf ii).toNat)
  case atStart => exact ⟨0, 0, Nat.zero_le _, rfl, rfl, Lib.hid rfl, Below.refl _ _⟩
  case round =>
    obtain ⟨k, s, hk, rfl, rfl, hrel, hb⟩ := hrel
    by_cases h0 : k < xs.length
    · obtain ⟨g, o, rfl, hg, hc1, q2, c2, hc2, hq⟩ := (hx.below hb).at (i := k) h0
      have hs := lenOf_succ ord h0
      have hbd := lenOf_bd ord (xs.take k)
      have hbe := ext_bd ord (xs.getD k (0, [])).2
      have hll : (xs.take k).length ≤ 1000 := Nat.le_trans (List.length_take_le' _ _) hl1
      have hmul : ((ord.length : Int) + 1) * ((xs.take k).length : Int) ≤ 1001 * 1000 := Int.mul_le_mul (by omega) (by omega) (by omega) (by omega)
      rw [hrel.out] at hs hbd
      generalize xs.getD k (0, []) = n at *
      obtain ⟨sh, cols⟩ := n
      simp only at hc1 hc2 hq hs hbe
      have K := Lib.hid (HE.out wr (.agg #[.int .i64 sh, .slice q2 cols.length c2]) (sh, cols) hb ⟨q2, c2, rfl, hq⟩)
      simp only at K
      generalize extOf ord cols = lh at *
      obtain ⟨lo, h⟩ := lh
      simp only at hs hbe
      obtain ⟨b1, b2, b3, b4⟩ := hbe
      have hb1 : -1001000 ≤ s := by omega
      have hb2 : s ≤ 1001000 := by omega
      generalize hn : lenOf ord (xs.take (k + 1)) = s' at *
      have HN := Lib.hid hn
      have HS := Lib.hid hs
      have HB := Lib.hid hb
      clear hs hn hq hx hbd hmul hll hb
      go_wp2_with (go_at_call 17; refine K.out.mono ?_; rintro e w1 ⟨rfl, hb5⟩)
      go_roundw
      case rel => exact ⟨k + 1, s', by omega, by go_num, by rw [HS.out], HN, HB.out.trans (hb5.mono HB.out.size)⟩
      case measure => simp [intOf]; omega
    · obtain rfl : k = xs.length := by omega
      have hz : res = s := by rw [← HR.out, ← hrel.out, List.take_length]
      have HZ := Lib.hid hz
      clear hz hx
      go_wp2
      go_ret
      exact ⟨iret HZ.out.symm, hb⟩
end Go.Proofs.YtggcnnpklkmeoaaGreatDoor
end

section
namespace Go.Proofs.YtggcnnpklkmeoaaGreatDoor
open Go.RowKit Go

def orderFrom (cols : Int) (ord : List Int) (k : Nat) : Nat → Int
  | 0 => 0
  | n + 1 => if ord.getD k 0 < 0 ∨ cols ≤ ord.getD k 0 then 10 else if ord.getD k 0 ∈ ord.take k then 9 else orderFrom cols ord (k + 1) n
/-- The error of an order. -/
def orderOf (cols : Int) (ord : List Int) : Int := if (ord.length : Int) = cols then orderFrom cols ord 0 ord.length else 2

theorem IntV.drewN {w : World} {p : Option Addr} {xs : List Int} (h : IntV w p xs) (n : Nat) : IntV (w.drewN n) p xs := h.below (dn_below w n)

set_option maxHeartbeats 1600000 in
/-- CheckOrder of the reference of chapter 7. -/
theorem bCheckOrder_any (p : Option Addr) (ca : Nat) (ord : List Int) (cols : Int) (w : World) (ho : IntV w p ord) (hcap : ord.length ≤ ca) :
    Calls Tryz.prog 15 #[.int .i64 cols, .slice p ord.length ca] w fun e w' => e = .returned (.int .i64 (orderOf cols ord)) ∧ Below w.heap.size w w' := by
  have hm := ho.1
  by_cases hl : (ord.length : Int) = cols
  · have hr : orderOf cols ord = orderFrom cols ord 0 (ord.length - 0) := by unfold orderOf; rw [if_pos hl]; rfl
    generalize orderOf cols ord = res at *
    have HR := Lib.hid hr
    subst hl
    have hd : ((ord.length : Int) != (ord.length : Int)) = false := by simp
    clear hr
    go_enter Tryz.func15, Tryz.ntmps15
    go_wp2
    go_loopw [5] (fun ii wr => ∃ (k : Nat), k ≤ ord.length ∧ ii = .int .i64 k ∧ Hid (res = orderFrom ord.length ord k (ord.length - k)) ∧ ∃ nd, wr = w.drewN nd) (fun ii _ => ord.length - (intOf ii).toNat)
    case atStart => exact ⟨0, Nat.zero_le _, rfl, HR, 0, rfl⟩
    case round =>
      obtain ⟨k, hk, rfl, hrel, nd, rfl⟩ := hrel
      by_cases h0 : k < ord.length
      · obtain ⟨g, o, rfl, hg, hc⟩ := ho.at (i := k) h0
        have hlen : (ord.take k).length = k := by rw [List.length_take]; omega
        have hin : ∀ x n, Calls Tryz.prog 45 #[.slice (some ⟨g, o, none⟩) k ca, .int .i64 x] (w.drewN (nd + n)) fun e w'' => e = .returned (.bool (decide (x ∈ ord.take k))) ∧ ∃ m, w'' = w.drewN (nd + m) := by
          intro x n
          have := bIn_any (some ⟨g, o, none⟩) ca (ord.take k) x (w.drewN (nd + n)) ((ho.take k).drewN _)
          rw [hlen] at this
          exact qsame this
        have hs : res = if ord.getD k 0 < 0 ∨ (ord.length : Int) ≤ ord.getD k 0 then 10 else if ord.getD k 0 ∈ ord.take k then 9 else orderFrom ord.length ord (k + 1) (ord.length - (k + 1)) := by
          rw [hrel.out, show ord.length - k = (ord.length - (k + 1)) + 1 by omega]; rfl
        have HI := Lib.hid hin
        generalize ord.getD k 0 = y at *
        have HS := Lib.hid hs
        clear hs hlen hin ho
        by_cases h1 : y < 0
        · have hz : res = 10 := by rw [HS.out, if_pos (.inl h1)]
          have HZ := Lib.hid hz
          clear hz
          go_wp2
          go_ret
          exact ⟨iret HZ.out.symm, dn_below _ _⟩
        by_cases h2 : (ord.length : Int) ≤ y
        · have hz : res = 10 := by rw [HS.out, if_pos (.inr h2)]
          have HZ := Lib.hid hz
          clear hz
          go_wp2
          go_ret
          exact ⟨iret HZ.out.symm, dn_below _ _⟩
        by_cases h3 : y ∈ ord.take k
        · have hz : res = 9 := by rw [HS.out, if_neg (by omega), if_pos h3]
          have HZ := Lib.hid hz
          have hd3 : decide (y ∈ ord.take k) = true := decide_eq_true h3
          clear hz
          go_wp2
          go_quiet ((go_at_call 45; exact HI.out _ _))
          go_wp2
          go_ret
          exact ⟨iret HZ.out.symm, by first | exact dn_below _ _ | exact below_drewN (dn_below _ _) _⟩
        · have hz : res = orderFrom ord.length ord (k + 1) (ord.length - (k + 1)) := by rw [HS.out, if_neg (by omega), if_neg h3]
          have HZ := Lib.hid hz
          have hd3 : decide (y ∈ ord.take k) = false := decide_eq_false h3
          clear hz
          go_wp2
          go_quiet ((go_at_call 45; exact HI.out _ _))
          go_wp2
          go_roundw
          case rel => exact ⟨k + 1, by omega, by go_num, HZ, by first | exact ⟨_, rfl⟩ | exact ⟨nd + 1, rfl⟩⟩
          case measure => simp [intOf]; omega
      · obtain rfl : k = ord.length := by omega
        have hz : res = 0 := by rw [hrel.out, Nat.sub_self]; rfl
        have HZ := Lib.hid hz
        clear hz ho
        go_wp2
        go_ret
        exact ⟨iret HZ.out.symm, dn_below _ _⟩
  · have hr : orderOf cols ord = 2 := by unfold orderOf; rw [if_neg hl]
    rw [hr]
    have hd : ((ord.length : Int) != cols) = true := by simpa using hl
    clear hr ho hl
    go_enter Tryz.func15, Tryz.ntmps15
    go_wp2
    go_ret
    exact ⟨rfl, Below.refl _ _⟩
end Go.Proofs.YtggcnnpklkmeoaaGreatDoor
end

