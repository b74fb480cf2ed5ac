import Derived.Test.YtclhglickeoocaaGreatDoorWD
import Derived.Test.YtclhglickeoocaaGreatDoorTT
namespace Go.Proofs.YtclhglickeoocaaGreatDoor
open Go.RowKit Go.Maps Go

theorem awake_from {w : World} (W : World) (h : Below w.heap.size w W) : Calls Tryz.prog 4 #[] W fun e w' => e = .returned (.bool true) ∧ Below w.heap.size w w' :=
  (awake05_true W).mono fun _ _ k => ⟨k.1, h.trans (k.2.mono h.size)⟩

set_option maxRecDepth 100000 in
set_option maxHeartbeats 800000 in
/-- GearStocks, of much. -/
theorem lStocks_many (p q : Option Addr) (n m ca cb : Nat) (w : World) (hn : n ≤ maxLen) (hm : m ≤ maxLen) (h : 40 < n ∨ 10 < m) :
    Calls Tryz.prog 3 #[.slice p n ca, .slice q m cb] w fun e w' => e = .returned (.bool true) ∧ Below w.heap.size w w' := by
  have H4 := Lib.hid (awake_from (w := w))
  have hb : Below w.heap.size w w := Below.refl _ _
  unfold maxLen at hn hm
  by_cases h1 : 40 < n
  · clear h
    go_enter Tryz.func3, Tryz.ntmps3
    go_wp2_with (go_at_call 4; (with_reducible refine (H4.out _ ?hb).mono ?_); (case hb => repeat' (first | assumption | exact Below.size (B := w.heap.size) (by assumption) | refine Below.drew ?_ | refine Below.alloc ?_ ?_ _ | refine Below.setCell ?_ ?_ _ | refine below_drewN ?_ _)); rintro e w1 ⟨rfl, hb⟩)
    go_ret
    exact ⟨rfl, by assumption⟩
  · have h2 : 10 < m := by omega
    clear h
    go_enter Tryz.func3, Tryz.ntmps3
    go_wp2_with (go_at_call 4; (with_reducible refine (H4.out _ ?hb).mono ?_); (case hb => repeat' (first | assumption | exact Below.size (B := w.heap.size) (by assumption) | refine Below.drew ?_ | refine Below.alloc ?_ ?_ _ | refine Below.setCell ?_ ?_ _ | refine below_drewN ?_ _)); rintro e w1 ⟨rfl, hb⟩)
    go_ret
    exact ⟨rfl, by assumption⟩

theorem below_from {P : Program} {f : FuncId} {args : Array Value} {w W : World} {v : Value} (h : Below w.heap.size w W) (k : Calls P f args W fun e w' => e = .returned v ∧ Below W.heap.size W w') :
    Calls P f args W fun e w' => e = .returned v ∧ Below w.heap.size w w' := k.mono fun _ _ k => ⟨k.1, h.trans (k.2.mono h.size)⟩

theorem law_sum {xs ys : List (Int × Int)} : trainOf xs ys = if firstOf (stockOf xs) (formOf ys) = 0 then (if (!buildsOf xs ys) = true then 23 else 0) else firstOf (stockOf xs) (formOf ys) := by
  unfold trainOf firstOf
  by_cases h1 : stockOf xs = 0
  · simp only [h1, ne_eq, not_true_eq_false, if_false]
    by_cases h2 : formOf ys = 0
    · simp only [h2, ne_eq, not_true_eq_false, if_false, if_true]
      cases buildsOf xs ys <;> rfl
    · simp [h2]
  · simp [h1]

set_option maxRecDepth 100000 in
set_option maxHeartbeats 1600000 in
/-- GearStocks. -/
theorem lStocks (p q : Option Addr) (ca cb : Nat) (xs ys : List (Int × Int)) (w : World) (hx : PairsV w p xs) (hy : PairsV w q ys) (hl1 : xs.length ≤ 40) (hl2 : ys.length ≤ 10) :
    Calls Tryz.prog 3 #[.slice p xs.length ca, .slice q ys.length cb] w fun e w' => e = .returned (.bool true) ∧ Below w.heap.size w w' := by
  have H4 := Lib.hid (awake_from (w := w))
  have H5 := Lib.hid (fun W (h : Below w.heap.size w W) => below_from h (gStock_any p ca xs W (hx.below h)))
  have H6 := Lib.hid (fun W (h : Below w.heap.size w W) => below_from h (cStock_any p ca xs W (hx.below h)))
  have H8 := Lib.hid (fun W (h : Below w.heap.size w W) => below_from h (gForm_any q cb ys W (hy.below h)))
  have H7 := Lib.hid (fun W (h : Below w.heap.size w W) g c (h1 : W.cell? ⟨g, 0, none⟩ = some (.int .i64 (stockOf xs))) (h2 : W.cell? ⟨g, 1, none⟩ = some (.int .i64 (formOf ys))) => below_from h (lFirst g 0 c _ _ W h1 h2))
  have H9 := Lib.hid (fun W (h : Below w.heap.size w W) dd => below_from h (lWhen dd 23 W))
  have H10 := Lib.hid (fun W (h : Below w.heap.size w W) => below_from h (gBuilds_any p q ca cb xs ys W (hx.below h) (hy.below h)))
  have H11 := Lib.hid (fun W (h : Below w.heap.size w W) => below_from h (cTrain_any p q ca cb xs ys W (hx.below h) (hy.below h)))
  have hb : Below w.heap.size w w := Below.refl _ _
  have hsum := law_sum (xs := xs) (ys := ys)
  generalize stockOf xs = s at *
  generalize formOf ys = f at *
  generalize trainOf xs ys = t at *
  generalize buildsOf xs ys = d at *
  generalize hfo : firstOf s f = g at *
  have hsz : (xs.length : Int) ≤ 40 := by omega
  clear hx hy hfo
  by_cases hg : g = 0
  · subst hg
    rw [if_pos rfl] at hsum
    cases d
    · have hsum' : t = 23 := hsum
      subst hsum'
      clear hsum
      go_enter Tryz.func3, Tryz.ntmps3
      go_wp2_with (first 
    | (go_at_call 4; (with_reducible refine (H4.out _ ?hb).mono ?_); (case hb => repeat' (first | assumption | exact Below.size (B := w.heap.size) (by assumption) | refine Below.drew ?_ | refine Below.alloc ?_ ?_ _ | refine Below.setCell ?_ ?_ _ | refine below_drewN ?_ _)); rintro e w1 ⟨rfl, hb⟩) 
    | (go_at_call 5; (with_reducible refine (H5.out _ ?hb).mono ?_); (case hb => repeat' (first | assumption | exact Below.size (B := w.heap.size) (by assumption) | refine Below.drew ?_ | refine Below.alloc ?_ ?_ _ | refine Below.setCell ?_ ?_ _ | refine below_drewN ?_ _)); rintro e w1 ⟨rfl, hb⟩) 
    | (go_at_call 6; (with_reducible refine (H6.out _ ?hb).mono ?_); (case hb => repeat' (first | assumption | exact Below.size (B := w.heap.size) (by assumption) | refine Below.drew ?_ | refine Below.alloc ?_ ?_ _ | refine Below.setCell ?_ ?_ _ | refine below_drewN ?_ _)); rintro e w1 ⟨rfl, hb⟩) 
    | (go_at_call 8; (with_reducible refine (H8.out _ ?hb).mono ?_); (case hb => repeat' (first | assumption | exact Below.size (B := w.heap.size) (by assumption) | refine Below.drew ?_ | refine Below.alloc ?_ ?_ _ | refine Below.setCell ?_ ?_ _ | refine below_drewN ?_ _)); rintro e w1 ⟨rfl, hb⟩) 
    | (go_at_call 7; (with_reducible refine (H7.out _ ?hb _ _ ?hc1 ?hc2).mono ?_); (case hb => repeat' (first | assumption | exact Below.size (B := w.heap.size) (by assumption) | refine Below.drew ?_ | refine Below.alloc ?_ ?_ _ | refine Below.setCell ?_ ?_ _ | refine below_drewN ?_ _)); (case hc1 => simp); (case hc2 => simp); rintro e w1 ⟨rfl, hb⟩) 
    | (go_at_call 9; (with_reducible refine (H9.out _ ?hb _).mono ?_); (case hb => repeat' (first | assumption | exact Below.size (B := w.heap.size) (by assumption) | refine Below.drew ?_ | refine Below.alloc ?_ ?_ _ | refine Below.setCell ?_ ?_ _ | refine below_drewN ?_ _)); rintro e w1 ⟨rfl, hb⟩) 
    | (go_at_call 10; (with_reducible refine (H10.out _ ?hb).mono ?_); (case hb => repeat' (first | assumption | exact Below.size (B := w.heap.size) (by assumption) | refine Below.drew ?_ | refine Below.alloc ?_ ?_ _ | refine Below.setCell ?_ ?_ _ | refine below_drewN ?_ _)); rintro e w1 ⟨rfl, hb⟩) 
    | (go_at_call 11; (with_reducible refine (H11.out _ ?hb).mono ?_); (case hb => repeat' (first | assumption | exact Below.size (B := w.heap.size) (by assumption) | refine Below.drew ?_ | refine Below.alloc ?_ ?_ _ | refine Below.setCell ?_ ?_ _ | refine below_drewN ?_ _)); rintro e w1 ⟨rfl, hb⟩) )
      go_ret
      exact ⟨rfl, by assumption⟩
    · have hsum' : t = 0 := hsum
      subst hsum'
      clear hsum
      go_enter Tryz.func3, Tryz.ntmps3
      go_wp2_with (first 
    | (go_at_call 4; (with_reducible refine (H4.out _ ?hb).mono ?_); (case hb => repeat' (first | assumption | exact Below.size (B := w.heap.size) (by assumption) | refine Below.drew ?_ | refine Below.alloc ?_ ?_ _ | refine Below.setCell ?_ ?_ _ | refine below_drewN ?_ _)); rintro e w1 ⟨rfl, hb⟩) 
    | (go_at_call 5; (with_reducible refine (H5.out _ ?hb).mono ?_); (case hb => repeat' (first | assumption | exact Below.size (B := w.heap.size) (by assumption) | refine Below.drew ?_ | refine Below.alloc ?_ ?_ _ | refine Below.setCell ?_ ?_ _ | refine below_drewN ?_ _)); rintro e w1 ⟨rfl, hb⟩) 
    | (go_at_call 6; (with_reducible refine (H6.out _ ?hb).mono ?_); (case hb => repeat' (first | assumption | exact Below.size (B := w.heap.size) (by assumption) | refine Below.drew ?_ | refine Below.alloc ?_ ?_ _ | refine Below.setCell ?_ ?_ _ | refine below_drewN ?_ _)); rintro e w1 ⟨rfl, hb⟩) 
    | (go_at_call 8; (with_reducible refine (H8.out _ ?hb).mono ?_); (case hb => repeat' (first | assumption | exact Below.size (B := w.heap.size) (by assumption) | refine Below.drew ?_ | refine Below.alloc ?_ ?_ _ | refine Below.setCell ?_ ?_ _ | refine below_drewN ?_ _)); rintro e w1 ⟨rfl, hb⟩) 
    | (go_at_call 7; (with_reducible refine (H7.out _ ?hb _ _ ?hc1 ?hc2).mono ?_); (case hb => repeat' (first | assumption | exact Below.size (B := w.heap.size) (by assumption) | refine Below.drew ?_ | refine Below.alloc ?_ ?_ _ | refine Below.setCell ?_ ?_ _ | refine below_drewN ?_ _)); (case hc1 => simp); (case hc2 => simp); rintro e w1 ⟨rfl, hb⟩) 
    | (go_at_call 9; (with_reducible refine (H9.out _ ?hb _).mono ?_); (case hb => repeat' (first | assumption | exact Below.size (B := w.heap.size) (by assumption) | refine Below.drew ?_ | refine Below.alloc ?_ ?_ _ | refine Below.setCell ?_ ?_ _ | refine below_drewN ?_ _)); rintro e w1 ⟨rfl, hb⟩) 
    | (go_at_call 10; (with_reducible refine (H10.out _ ?hb).mono ?_); (case hb => repeat' (first | assumption | exact Below.size (B := w.heap.size) (by assumption) | refine Below.drew ?_ | refine Below.alloc ?_ ?_ _ | refine Below.setCell ?_ ?_ _ | refine below_drewN ?_ _)); rintro e w1 ⟨rfl, hb⟩) 
    | (go_at_call 11; (with_reducible refine (H11.out _ ?hb).mono ?_); (case hb => repeat' (first | assumption | exact Below.size (B := w.heap.size) (by assumption) | refine Below.drew ?_ | refine Below.alloc ?_ ?_ _ | refine Below.setCell ?_ ?_ _ | refine below_drewN ?_ _)); rintro e w1 ⟨rfl, hb⟩) )
      go_ret
      exact ⟨rfl, by assumption⟩
  · rw [if_neg hg] at hsum
    subst hsum
    have hne : (t == 0) = false := by simpa using hg
    clear hg
    go_enter Tryz.func3, Tryz.ntmps3
    go_wp2_with (first 
    | (go_at_call 4; (with_reducible refine (H4.out _ ?hb).mono ?_); (case hb => repeat' (first | assumption | exact Below.size (B := w.heap.size) (by assumption) | refine Below.drew ?_ | refine Below.alloc ?_ ?_ _ | refine Below.setCell ?_ ?_ _ | refine below_drewN ?_ _)); rintro e w1 ⟨rfl, hb⟩) 
    | (go_at_call 5; (with_reducible refine (H5.out _ ?hb).mono ?_); (case hb => repeat' (first | assumption | exact Below.size (B := w.heap.size) (by assumption) | refine Below.drew ?_ | refine Below.alloc ?_ ?_ _ | refine Below.setCell ?_ ?_ _ | refine below_drewN ?_ _)); rintro e w1 ⟨rfl, hb⟩) 
    | (go_at_call 6; (with_reducible refine (H6.out _ ?hb).mono ?_); (case hb => repeat' (first | assumption | exact Below.size (B := w.heap.size) (by assumption) | refine Below.drew ?_ | refine Below.alloc ?_ ?_ _ | refine Below.setCell ?_ ?_ _ | refine below_drewN ?_ _)); rintro e w1 ⟨rfl, hb⟩) 
    | (go_at_call 8; (with_reducible refine (H8.out _ ?hb).mono ?_); (case hb => repeat' (first | assumption | exact Below.size (B := w.heap.size) (by assumption) | refine Below.drew ?_ | refine Below.alloc ?_ ?_ _ | refine Below.setCell ?_ ?_ _ | refine below_drewN ?_ _)); rintro e w1 ⟨rfl, hb⟩) 
    | (go_at_call 7; (with_reducible refine (H7.out _ ?hb _ _ ?hc1 ?hc2).mono ?_); (case hb => repeat' (first | assumption | exact Below.size (B := w.heap.size) (by assumption) | refine Below.drew ?_ | refine Below.alloc ?_ ?_ _ | refine Below.setCell ?_ ?_ _ | refine below_drewN ?_ _)); (case hc1 => simp); (case hc2 => simp); rintro e w1 ⟨rfl, hb⟩) 
    | (go_at_call 9; (with_reducible refine (H9.out _ ?hb _).mono ?_); (case hb => repeat' (first | assumption | exact Below.size (B := w.heap.size) (by assumption) | refine Below.drew ?_ | refine Below.alloc ?_ ?_ _ | refine Below.setCell ?_ ?_ _ | refine below_drewN ?_ _)); rintro e w1 ⟨rfl, hb⟩) 
    | (go_at_call 10; (with_reducible refine (H10.out _ ?hb).mono ?_); (case hb => repeat' (first | assumption | exact Below.size (B := w.heap.size) (by assumption) | refine Below.drew ?_ | refine Below.alloc ?_ ?_ _ | refine Below.setCell ?_ ?_ _ | refine below_drewN ?_ _)); rintro e w1 ⟨rfl, hb⟩) 
    | (go_at_call 11; (with_reducible refine (H11.out _ ?hb).mono ?_); (case hb => repeat' (first | assumption | exact Below.size (B := w.heap.size) (by assumption) | refine Below.drew ?_ | refine Below.alloc ?_ ?_ _ | refine Below.setCell ?_ ?_ _ | refine below_drewN ?_ _)); rintro e w1 ⟨rfl, hb⟩) )
    go_ret
    exact ⟨rfl, by assumption⟩
end Go.Proofs.YtclhglickeoocaaGreatDoor
