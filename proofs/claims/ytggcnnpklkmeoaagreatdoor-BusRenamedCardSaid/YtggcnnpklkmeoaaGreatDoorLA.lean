import Derived.Test.YtggcnnpklkmeoaaGreatDoorUB
import Derived.Test.YtggcnnpklkmeoaaGreatDoorWG
import Derived.Test.YtggcnnpklkmeoaaGreatDoorFR
import Derived.Laws.StructEq
import Derived.Laws.Cover2
namespace Go.Proofs.YtggcnnpklkmeoaaGreatDoor
open Go.RowKit Go

/-! The helpers of the laws of chapter 7. -/

def shortN (x : Int × List Int) : Bool := decide (x.2.length ≤ 12)

def lightOf (cols : Int) (xs : List (Int × List Int)) : Bool :=
  if 70 < xs.length then false else if xs.all shortN = true then (decide (netsOf cols xs ≠ 0) || (decide (xs.length ≤ 7) && decide (cols ≤ 7))) else false

theorem light_ok {cols : Int} {xs : List (Int × List Int)} (h : lightOf cols xs = true) : xs.length ≤ 70 ∧ (∀ x ∈ xs, x.2.length ≤ 12) ∧ (netsOf cols xs = 0 → xs.length ≤ 7 ∧ cols ≤ 7) := by
  unfold lightOf at h
  split at h
  · cases h
  · split at h
    · rename_i h1 h2
      refine ⟨by omega, fun x hx => by simpa [shortN] using List.all_eq_true.1 h2 x hx, fun h3 => ?_⟩
      rw [h3] at h
      simp at h
      exact h
    · cases h

theorem short_succ {xs : List (Int × List Int)} {k : Nat} (h0 : k < xs.length) (h : (xs.take k).all shortN = true) (h2 : shortN (xs.getD k (0, [])) = true) : (xs.take (k + 1)).all shortN = true := by
  rw [nets_take h0, List.all_append, h, List.all_cons, h2]; rfl

theorem short_bad {xs : List (Int × List Int)} {k : Nat} (h0 : k < xs.length) (h2 : shortN (xs.getD k (0, [])) = false) : xs.all shortN = false := by
  rw [List.all_eq_false]
  refine ⟨xs.getD k (0, []), ?_, by rw [h2]; decide⟩
  rw [List.getD_eq_getElem?_getD, List.getElem?_eq_getElem h0]; exact List.getElem_mem h0

set_option maxHeartbeats 1600000 in
set_option maxRecDepth 100000 in
/-- light. -/
theorem lLight_any (p : Option Addr) (ca : Nat) (xs : List (Int × List Int)) (cols : Int) (w : World) (hs : NetsS w p xs) (hv : xs.length ≤ 70 → (∀ x ∈ xs, x.2.length ≤ 12) → NetsV w p xs) :
    Calls Tryz.prog 10 #[.slice p xs.length ca, .int .i64 cols] w fun e w' => e = .returned (.bool (lightOf cols xs)) ∧ Below w.heap.size w w' := by
  by_cases c1 : 70 < xs.length
  · have hr : lightOf cols xs = false := by unfold lightOf; rw [if_pos c1]
    rw [hr]
    have c1' : (70 : Int) < xs.length := by omega
    clear hr hs hv c1
    go_enter Tryz.func10, Tryz.ntmps10
    go_wp2
    go_ret
    exact ⟨rfl, Below.refl _ _⟩
  · have hm : xs.length ≤ 70 := by omega
    have hr : lightOf cols xs = if xs.all shortN = true then (decide (netsOf cols xs ≠ 0) || (decide (xs.length ≤ 7) && decide (cols ≤ 7))) else false := by unfold lightOf; rw [if_neg c1]
    have KN := Lib.hid (fun (h : ∀ x ∈ xs, x.2.length ≤ 12) => bCheckNets_any p ca xs cols w (hv hm h))
    generalize lightOf cols xs = res at *
    have HR := Lib.hid hr
    have c1' : ¬ (70 : Int) < xs.length := by omega
    clear hr hv c1
    go_enter Tryz.func10, Tryz.ntmps10
    go_wp2
    go_loop [5] (fun ii => ∃ (k : Nat), k ≤ xs.length ∧ ii = .int .i64 k ∧ Hid ((xs.take k).all shortN = true)) (fun ii => xs.length - (intOf ii).toNat)
    case atStart => exact ⟨0, Nat.zero_le _, rfl, Lib.hid rfl⟩
    case round =>
      obtain ⟨k, hk, rfl, hrel⟩ := hrel
      by_cases h0 : k < xs.length
      · obtain ⟨g, o, rfl, hg, q, c, hc⟩ := hs.at (i := k) h0
        by_cases h1 : (xs.getD k (0, [])).2.length ≤ 12
        · have hz := short_succ h0 hrel.out (by simpa [shortN] using h1)
          have HZ := Lib.hid hz
          clear hz
          generalize (xs.getD k (0, [])).2.length = n at *
          go_wp2
          go_round
          case rel => exact ⟨k + 1, by omega, by go_num, HZ⟩
          case measure => simp [intOf]; omega
        · have hz := short_bad h0 (by simpa [shortN] using h1)
          have hz2 : res = false := by rw [HR.out, hz]; rfl
          have HZ := Lib.hid hz2
          clear hz hz2
          generalize (xs.getD k (0, [])).2.length = n at *
          have h1' : (12 : Int) < n := by omega
          go_wp2
          go_ret
          exact ⟨bret HZ.out.symm, Below.refl _ _⟩
      · obtain rfl : k = xs.length := by omega
        have hall : xs.all shortN = true := by have := hrel.out; rwa [List.take_length] at this
        have hz : res = (decide (netsOf cols xs ≠ 0) || (decide (xs.length ≤ 7) && decide (cols ≤ 7))) := by rw [HR.out, if_pos hall]
        have K := Lib.hid (KN.out fun x hx => by simpa [shortN] using List.all_eq_true.1 hall x hx)
        have HZ := Lib.hid hz
        clear hz hall hrel HR hs KN
        generalize netsOf cols xs = ne at *
        by_cases h1 : ne = 0
        · subst h1
          by_cases h2 : xs.length ≤ 7
          · by_cases h3 : cols ≤ 7
            · have hz : res = true := by rw [HZ.out, decide_eq_true h2, decide_eq_true h3]; rfl
              have HZ2 := Lib.hid hz
              have h2' : (xs.length : Int) ≤ 7 := by omega
              clear hz
              go_wp2_with (go_at_call 14; refine K.out.mono ?_; rintro e w1 ⟨rfl, hb⟩)
              go_ret
              exact ⟨bret HZ2.out.symm, hb⟩
            · have hz : decide (cols ≤ 7) = res := by rw [HZ.out, decide_eq_true h2]; simp
              have HZ2 := Lib.hid hz
              have h2' : (xs.length : Int) ≤ 7 := by omega
              clear hz
              go_wp2_with (go_at_call 14; refine K.out.mono ?_; rintro e w1 ⟨rfl, hb⟩)
              go_ret
              exact ⟨bret HZ2.out, hb⟩
          · have hz : res = false := by rw [HZ.out, decide_eq_false h2]; simp
            have HZ2 := Lib.hid hz
            have h2' : ¬ (xs.length : Int) ≤ 7 := by omega
            clear hz
            go_wp2_with (go_at_call 14; refine K.out.mono ?_; rintro e w1 ⟨rfl, hb⟩)
            go_ret
            exact ⟨bret HZ2.out.symm, hb⟩
        · have hz : res = true := by rw [HZ.out, decide_eq_true h1]; rfl
          have HZ2 := Lib.hid hz
          have hne : (ne != 0) = true := by simpa using h1
          clear hz h1
          go_wp2_with (go_at_call 14; refine K.out.mono ?_; rintro e w1 ⟨rfl, hb⟩)
          go_ret
          exact ⟨bret HZ2.out.symm, hb⟩

set_option maxRecDepth 100000 in
set_option maxHeartbeats 800000 in
/-- first, of one. -/
theorem lFirst_one (g c : Nat) (a : Int) (w : World) (h0 : w.cell? ⟨g, 0, none⟩ = some (.int .i64 a)) :
    Calls Tryz.prog 13 #[.slice (some ⟨g, 0, none⟩) 1 c] w fun e w' => e = .returned (.int .i64 a) ∧ Below w.heap.size w w' := by
  by_cases ha : a = 0
  · subst ha
    go_enter Tryz.func13, Tryz.ntmps13
    go_wp2
    refine wp_loop_rounds 2 ?_
    rw [rounds_succ]
    go_wp2
    rw [rounds_succ]
    go_wp2
    go_ret
    exact ⟨rfl, Below.refl _ _⟩
  · have hne : (a == 0) = false := by simpa using ha
    go_enter Tryz.func13, Tryz.ntmps13
    go_wp2
    refine wp_loop_rounds 2 ?_
    rw [rounds_succ]
    go_wp2
    go_ret
    exact ⟨rfl, Below.refl _ _⟩

/-- What the law's number says. -/
def numberOf (x e bad want : Int) : Bool := if bad ≠ 0 then decide (x = 0) && decide (e = bad) else decide (e = 0) && decide (x = want)

set_option maxRecDepth 100000 in
set_option maxHeartbeats 800000 in
theorem lNumber_any (x e bad want : Int) (w : World) :
    Calls Tryz.prog 16 #[.int .i64 x, .int .i64 e, .int .i64 bad, .int .i64 want] w fun r w' => r = .returned (.bool (numberOf x e bad want)) ∧ Below w.heap.size w w' := by
  have hr : numberOf x e bad want = if bad ≠ 0 then decide (x = 0) && decide (e = bad) else decide (e = 0) && decide (x = want) := rfl
  generalize numberOf x e bad want = res at *
  have HR := Lib.hid hr
  clear hr
  by_cases hb : bad = 0
  · subst hb
    have hz : res = (decide (e = 0) && decide (x = want)) := by rw [HR.out]; simp
    have HZ := Lib.hid hz
    clear hz
    by_cases h1 : e = 0
    · subst h1
      by_cases h2 : x = want
      · have hd : (x == want) = true := by simpa using h2
        have hz : res = true := by rw [HZ.out, decide_eq_true h2]; rfl
        have HZ2 := Lib.hid hz
        clear hz h2
        go_enter Tryz.func16, Tryz.ntmps16
        go_wp2
        go_ret
        exact ⟨bret HZ2.out.symm, Below.refl _ _⟩
      · have hd : (x == want) = false := by simpa using h2
        have hz : res = false := by rw [HZ.out, decide_eq_false h2]; rfl
        have HZ2 := Lib.hid hz
        clear hz h2
        go_enter Tryz.func16, Tryz.ntmps16
        go_wp2
        go_ret
        exact ⟨bret HZ2.out.symm, Below.refl _ _⟩
    · have hd : (e == 0) = false := by simpa using h1
      have hz : res = false := by rw [HZ.out, decide_eq_false h1]; rfl
      have HZ2 := Lib.hid hz
      clear hz h1
      go_enter Tryz.func16, Tryz.ntmps16
      go_wp2
      go_ret
      exact ⟨bret HZ2.out.symm, Below.refl _ _⟩
  · have hne : (bad != 0) = true := by simpa using hb
    have hz : res = (decide (x = 0) && decide (e = bad)) := by rw [HR.out, if_pos hb]
    have HZ := Lib.hid hz
    clear hz hb
    by_cases h1 : x = 0
    · subst h1
      by_cases h2 : e = bad
      · have hd : (e == bad) = true := by simpa using h2
        have hz : res = true := by rw [HZ.out, decide_eq_true h2]; rfl
        have HZ2 := Lib.hid hz
        clear hz h2
        go_enter Tryz.func16, Tryz.ntmps16
        go_wp2
        go_ret
        exact ⟨bret HZ2.out.symm, Below.refl _ _⟩
      · have hd : (e == bad) = false := by simpa using h2
        have hz : res = false := by rw [HZ.out, decide_eq_false h2]; rfl
        have HZ2 := Lib.hid hz
        clear hz h2
        go_enter Tryz.func16, Tryz.ntmps16
        go_wp2
        go_ret
        exact ⟨bret HZ2.out.symm, Below.refl _ _⟩
    · have hd : (x == 0) = false := by simpa using h1
      have hz : res = false := by rw [HZ.out, decide_eq_false h1]; rfl
      have HZ2 := Lib.hid hz
      clear hz h1
      go_enter Tryz.func16, Tryz.ntmps16
      go_wp2
      go_ret
      exact ⟨bret HZ2.out.symm, Below.refl _ _⟩

/-- Two pairs are compared. -/
theorem pair_eq (a b c d : Int) (w : World) : Sem.run Tryz.prog (Op.equalIn 10000 40 (.agg #[.int .i64 a, .int .i64 b]) (.agg #[.int .i64 c, .int .i64 d])) w = .ok (a == c && b == d) w := by
  have u3 := Tryz.underlying3
  have a3 := Tryz.isAgg3
  have z3 := Tryz.sizeOf3
  rw [show (10000 : Nat) = 9999 + 1 from rfl, Op.equalIn]
  simp only [Sem.run_bind, run_underlying Tryz.underlying40, Result.andThen_ok]
  simp only [Std.Legacy.Range.forIn_eq_forIn_range', Std.Legacy.Range.size, Nat.sub_zero, Nat.add_sub_cancel, Nat.div_one, List.range'_succ, List.range'_zero, List.forIn_cons, List.forIn_nil]
  go_simp
  by_cases h1 : a = c <;> by_cases h2 : b = d <;> simp [h1, h2]
end Go.Proofs.YtggcnnpklkmeoaaGreatDoor
