import Derived.Test.YtclhglickeoocaaGreatDoorWC
section
namespace Go.Proofs.YtclhglickeoocaaGreatDoor
open Go.RowKit Go.Maps Go

/-- The error of a train for a stock. -/
def trainOf (xs ys : List (Int × Int)) : Int := if stockOf xs ≠ 0 then stockOf xs else if formOf ys ≠ 0 then formOf ys else if buildsOf xs ys then 0 else 23

theorem stock_len {xs : List (Int × Int)} (h : stockOf xs = 0) : xs.length ≤ 32 ∧ stockFrom none xs = 0 := by
  unfold stockOf at h
  by_cases h1 : xs = []
  · rw [if_pos h1] at h; cases h
  rw [if_neg h1] at h
  by_cases h2 : 32 < xs.length
  · rw [if_pos h2] at h; cases h
  rw [if_neg h2] at h
  exact ⟨by omega, h⟩

theorem form_len {ys : List (Int × Int)} (h : formOf ys = 0) : ys.length ≤ 4 ∧ ∀ q ∈ ys, pairOk q = true := by
  unfold formOf at h
  by_cases h1 : 4 < ys.length
  · rw [if_pos h1] at h; cases h
  rw [if_neg h1] at h
  by_cases h2 : ys.all pairOk = true
  · exact ⟨by omega, List.all_eq_true.1 h2⟩
  · rw [if_neg h2] at h; cases h

set_option maxRecDepth 100000 in
set_option maxHeartbeats 800000 in
/-- CheckTrain. -/
theorem cTrain_any (p q : Option Addr) (ca cb : Nat) (xs ys : List (Int × Int)) (w : World) (hx : PairsV w p xs) (hy : PairsV w q ys) :
    Calls Tryz.prog 11 #[.slice p xs.length ca, .slice q ys.length cb] w fun e w' => e = .returned (.int .i64 (trainOf xs ys)) ∧ Below w.heap.size w w' := by
  have H1 := Lib.hid (cStock_any p ca xs w hx)
  have H2 := Lib.hid (fun W (h : Below w.heap.size w W) => cCheck_any q cb ys W (hy.below h))
  generalize hs : stockOf xs = s at *
  generalize hf : formOf ys = f at *
  by_cases hs0 : s = 0
  · subst hs0
    by_cases hf0 : f = 0
    · subst hf0
      obtain ⟨hl, hsf⟩ := stock_len hs
      obtain ⟨hg, hpw, _⟩ := stock_good hsf
      obtain ⟨hl2, hok⟩ := form_len hf
      have H3 := Lib.hid (fun W (h : Below w.heap.size w W) => cShelfOf p ca xs W (hx.below h) hl hg hpw)
      have hT : Tame (fun t => hasOf t xs) := hasOf_nonneg hg
      have H4 := Lib.hid (fun b W (h : Below w.heap.size w W) (hb : w.heap.size ≤ b) (hM : MapI W b 32 (fun t => hasOf t xs)) => cTake q cb ys b 32 (fun t => hasOf t xs) w.heap.size W (fun W2 h2 => hy.below (h.trans h2)) hl2 hok hM hb (by omega) hT)
      have hr : trainOf xs ys = if takes (fun t => hasOf t xs) ys then 0 else 23 := by
        unfold trainOf
        rw [hs, hf, takes_builds hg]; rfl
      rw [hr]
      generalize takes (fun t => hasOf t xs) ys = tk at *
      clear hr hs hf hsf hg hpw hok hT hx hy
      cases tk
      · go_enter Tryz.func11, Tryz.ntmps11
        go_wp2_with (first
          | (go_at_call 6; refine (H1.out).mono ?_; rintro e w1 ⟨rfl, hb1⟩)
          | (go_at_call 27; refine (H2.out _ hb1).mono ?_; rintro e w2 ⟨rfl, hb2⟩; have hb3 := hb1.trans (hb2.mono hb1.size))
          | (go_at_call 28; refine (H3.out _ hb3).mono ?_; rintro e w3 ⟨rfl, hb4, hm⟩)
          | (go_at_call 29; refine (H4.out _ _ (hb3.trans (hb4.mono hb3.size)) hb3.size hm).mono ?_; rintro e w4 ⟨rfl, hb5⟩))
        go_ret
        exact ⟨rfl, (hb3.trans (hb4.mono hb3.size)).trans hb5⟩
      · go_enter Tryz.func11, Tryz.ntmps11
        go_wp2_with (first
          | (go_at_call 6; refine (H1.out).mono ?_; rintro e w1 ⟨rfl, hb1⟩)
          | (go_at_call 27; refine (H2.out _ hb1).mono ?_; rintro e w2 ⟨rfl, hb2⟩; have hb3 := hb1.trans (hb2.mono hb1.size))
          | (go_at_call 28; refine (H3.out _ hb3).mono ?_; rintro e w3 ⟨rfl, hb4, hm⟩)
          | (go_at_call 29; refine (H4.out _ _ (hb3.trans (hb4.mono hb3.size)) hb3.size hm).mono ?_; rintro e w4 ⟨rfl, hb5⟩))
        go_ret
        exact ⟨rfl, (hb3.trans (hb4.mono hb3.size)).trans hb5⟩
    · have hr : trainOf xs ys = f := by unfold trainOf; rw [hs, hf, if_neg (by simp), if_pos hf0]
      have hne : (f == 0) = false := by simpa using hf0
      rw [hr]
      clear hr hs hf hf0 hx hy
      go_enter Tryz.func11, Tryz.ntmps11
      go_wp2_with (first
        | (go_at_call 6; refine (H1.out).mono ?_; rintro e w1 ⟨rfl, hb1⟩)
        | (go_at_call 27; refine (H2.out _ hb1).mono ?_; rintro e w2 ⟨rfl, hb2⟩; have hb3 := hb1.trans (hb2.mono hb1.size)))
      go_ret
      exact ⟨rfl, hb3⟩
  · have hr : trainOf xs ys = s := by unfold trainOf; rw [hs, if_pos hs0]
    have hne : (s == 0) = false := by simpa using hs0
    rw [hr]
    clear hr hs hf hs0 hx hy
    go_enter Tryz.func11, Tryz.ntmps11
    go_wp2_with (go_at_call 6; refine (H1.out).mono ?_; rintro e w1 ⟨rfl, hb1⟩)
    go_ret
    exact ⟨rfl, hb1⟩
end Go.Proofs.YtclhglickeoocaaGreatDoor
end

section
namespace Go.Proofs.YtclhglickeoocaaGreatDoor
open Go.RowKit Go.Maps Go

def firstOf (a b : Int) : Int := if a ≠ 0 then a else b

set_option maxRecDepth 100000 in
set_option maxHeartbeats 800000 in
/-- first, of two. -/
theorem lFirst (g o c : Nat) (a b : Int) (w : World) (h0 : w.cell? ⟨g, o, none⟩ = some (.int .i64 a)) (h1 : w.cell? ⟨g, o + 1, none⟩ = some (.int .i64 b)) :
    Calls Tryz.prog 7 #[.slice (some ⟨g, o, none⟩) 2 c] w fun e w' => e = .returned (.int .i64 (firstOf a b)) ∧ Below w.heap.size w w' := by
  by_cases ha : a = 0
  · by_cases hb : b = 0
    · subst ha; subst hb
      go_enter Tryz.func7, Tryz.ntmps7
      go_wp2
      refine wp_loop_rounds 3 ?_
      rw [rounds_succ]
      go_wp2
      rw [rounds_succ]
      go_wp2
      rw [rounds_succ]
      go_wp2
      go_ret
      exact ⟨rfl, Below.refl _ _⟩
    · subst ha
      have hne : (b == 0) = false := by simpa using hb
      have hr : firstOf 0 b = b := by simp [firstOf]
      rw [hr]
      go_enter Tryz.func7, Tryz.ntmps7
      go_wp2
      refine wp_loop_rounds 3 ?_
      rw [rounds_succ]
      go_wp2
      rw [rounds_succ]
      go_wp2
      go_ret
      exact ⟨rfl, Below.refl _ _⟩
  · have hne : (a == 0) = false := by simpa using ha
    have hr : firstOf a b = a := by simp [firstOf, ha]
    rw [hr]
    go_enter Tryz.func7, Tryz.ntmps7
    go_wp2
    refine wp_loop_rounds 3 ?_
    rw [rounds_succ]
    go_wp2
    go_ret
    exact ⟨rfl, Below.refl _ _⟩

set_option maxRecDepth 100000 in
/-- when. -/
theorem lWhen (h : Bool) (x : Int) (w : World) : Calls Tryz.prog 9 #[.bool h, .int .i64 x] w fun e w' => e = .returned (.int .i64 (if h then x else 0)) ∧ Below w.heap.size w w' := by
  cases h
  · go_enter Tryz.func9, Tryz.ntmps9
    go_wp2
    go_ret
    exact ⟨rfl, Below.refl _ _⟩
  · go_enter Tryz.func9, Tryz.ntmps9
    go_wp2
    go_ret
    exact ⟨rfl, Below.refl _ _⟩
end Go.Proofs.YtclhglickeoocaaGreatDoor
end

