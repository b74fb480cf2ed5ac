import Derived.Test.YtclhglickeoocaaGreatDoorWA
section
namespace Go.Proofs.YtclhglickeoocaaGreatDoor
open Go.RowKit Go

/-- The teeth of the wheel ahead of k, nought for none. -/
def prevI (xs : List (Int × Int)) (k : Nat) : Int := if k = 0 then 0 else (xs.getD (k - 1) (0, 0)).1

theorem prev_le {xs : List (Int × Int)} {k : Nat} {a : Int} (h : 6 ≤ a) : (match prevAt xs k with | some q => decide (a ≤ q) | none => false) = decide (a ≤ prevI xs k) := by
  unfold prevAt prevI
  by_cases hk : k = 0
  · rw [if_pos hk, if_pos hk]; simp; omega
  · rw [if_neg hk, if_neg hk]

set_option maxHeartbeats 1600000 in
/-- CheckStock. -/
theorem cStock_any (p : Option Addr) (ca : Nat) (xs : List (Int × Int)) (w : World) (hx : PairsV w p xs) :
    Calls Tryz.prog 6 #[.slice p xs.length ca] w fun e w' => e = .returned (.int .i64 (stockOf xs)) ∧ Below w.heap.size w w' := by
  have hm := hx.1
  by_cases he : xs = []
  · subst he
    have hr : stockOf [] = 12 := rfl
    rw [hr]
    clear hr hx
    go_enter Tryz.func6, Tryz.ntmps6
    go_wp2
    go_ret
    exact ⟨rfl, Below.refl _ _⟩
  have hpos : 0 < xs.length := List.length_pos_iff.2 he
  have hne : ((xs.length : Int) == 0) = false := by rw [beq_eq_false_iff_ne]; omega
  by_cases hl : 32 < xs.length
  · have hr : stockOf xs = 5 := by unfold stockOf; rw [if_neg he, if_pos hl]
    rw [hr]
    clear hr hx he
    go_enter Tryz.func6, Tryz.ntmps6
    go_wp2
    go_ret
    exact ⟨rfl, Below.refl _ _⟩
  generalize hr : stockOf xs = res
  have hr2 : res = stockFrom (prevAt xs 0) (xs.drop 0) := by rw [← hr]; unfold stockOf; rw [if_neg he, if_neg hl]; rfl
  have HR := Lib.hid hr2
  clear hr hr2 he
  have hl2 : xs.length ≤ 32 := by omega
  go_enter Tryz.func6, Tryz.ntmps6
  go_wp2
  go_loopw [3, 14] (fun bi ii wr => ∃ (k : Nat), k ≤ xs.length ∧ ii = .int .i64 k ∧ bi = .int .i64 (prevI xs k) ∧ Hid (res = stockFrom (prevAt xs k) (xs.drop k)) ∧ Below w.heap.size w wr) (fun _ ii _ => xs.length - (intOf ii).toNat)
  case atStart => exact ⟨0, Nat.zero_le _, rfl, rfl, HR, Below.refl _ _⟩
  case round =>
    obtain ⟨k, hk, rfl, rfl, hrel, hb⟩ := hrel
    by_cases h0 : k < xs.length
    · obtain ⟨g, o, rfl, hg, hc1, hc2⟩ := (hx.below hb).at (i := k) h0
      have hd := pairs_drop h0
      have hnext : prevAt xs (k + 1) = some (xs.getD k (0, 0)).1 := rfl
      have hnextI : prevI xs (k + 1) = (xs.getD k (0, 0)).1 := rfl
      generalize hp : xs.getD k (0, 0) = q at *
      obtain ⟨a, b⟩ := q
      have hs : res = if wheelOk (a, b) = false then 3 else if (match prevAt xs k with | some q => decide (a ≤ q) | none => false) = true then 11 else stockFrom (prevAt xs (k + 1)) (xs.drop (k + 1)) := by rw [hrel.out, hd, hnext]; rfl
      have HS := Lib.hid hs
      have HN := Lib.hid hnextI
      have HP := Lib.hid (prev_le (xs := xs) (k := k) (a := a))
      clear hs hp hd hnext hnextI
      have below1 : ∀ w1 : World, Below w.heap.size wr w1 → Below w.heap.size w w1 := fun w1 h => hb.trans h
      have hsz := hb.size
      generalize hq : prevI xs k = pv at *
      clear hq
      by_cases hbad : a < 6 ∨ 400 < a ∨ b < 1 ∨ 999999999 < b
      · have hz : res = 3 := by
          rw [HS.out, if_pos]
          cases h : wheelOk (a, b) with
          | false => rfl
          | true => rw [wheelOk_iff] at h; omega
        have HZ := Lib.hid hz
        clear hz hx
        by_cases h1 : a < 6
        · go_wp2
          go_ret
          exact ⟨iret HZ.out.symm, by refine below1 _ ?_; repeat' (first | exact Below.refl _ _ | exact hsz | refine Below.drew ?_ | refine Below.alloc ?_ ?_ _ | refine Below.setCell ?_ ?_ _)⟩
        by_cases h2 : 400 < a
        · go_wp2
          go_ret
          exact ⟨iret HZ.out.symm, by refine below1 _ ?_; repeat' (first | exact Below.refl _ _ | exact hsz | refine Below.drew ?_ | refine Below.alloc ?_ ?_ _ | refine Below.setCell ?_ ?_ _)⟩
        by_cases h3 : b < 1
        · go_wp2
          go_ret
          exact ⟨iret HZ.out.symm, by refine below1 _ ?_; repeat' (first | exact Below.refl _ _ | exact hsz | refine Below.drew ?_ | refine Below.alloc ?_ ?_ _ | refine Below.setCell ?_ ?_ _)⟩
        have h4 : 999999999 < b := by omega
        clear hbad
        go_wp2
        go_ret
        exact ⟨iret HZ.out.symm, by refine below1 _ ?_; repeat' (first | exact Below.refl _ _ | exact hsz | refine Below.drew ?_ | refine Below.alloc ?_ ?_ _ | refine Below.setCell ?_ ?_ _)⟩
      · obtain ⟨h1, h2, h3, h4⟩ : 6 ≤ a ∧ a ≤ 400 ∧ 1 ≤ b ∧ b ≤ 999999999 := by omega
        have hok : ¬ wheelOk (a, b) = false := by rw [wheelOk_iff.2 ⟨h1, h2, h3, h4⟩]; decide
        have hs2 : res = if a ≤ pv then 11 else stockFrom (prevAt xs (k + 1)) (xs.drop (k + 1)) := by
          rw [HS.out, if_neg hok, HP.out h1]
          by_cases h : a ≤ pv <;> simp [h]
        clear hbad hok HS HP
        by_cases hle : a ≤ pv
        · have hz : res = 11 := by rw [hs2, if_pos hle]
          have HZ := Lib.hid hz
          clear hz hs2 hx
          go_wp2
          go_ret
          exact ⟨iret HZ.out.symm, by refine below1 _ ?_; repeat' (first | exact Below.refl _ _ | exact hsz | refine Below.drew ?_ | refine Below.alloc ?_ ?_ _ | refine Below.setCell ?_ ?_ _)⟩
        · have hz : res = stockFrom (prevAt xs (k + 1)) (xs.drop (k + 1)) := by rw [hs2, if_neg hle]
          have HZ := Lib.hid hz
          clear hz hs2 hx
          go_wp2
          go_roundw
          case rel => exact ⟨k + 1, by omega, by go_num, by rw [HN.out], HZ, by refine below1 _ ?_; repeat' (first | exact Below.refl _ _ | exact hsz | refine Below.drew ?_ | refine Below.alloc ?_ ?_ _ | refine Below.setCell ?_ ?_ _)⟩
          case measure => simp [intOf]; omega
    · obtain rfl : k = xs.length := by omega
      have hz : res = 0 := by rw [hrel.out, List.drop_length]; rfl
      have HZ := Lib.hid hz
      clear hz hx
      go_wp2
      go_ret
      exact ⟨iret HZ.out.symm, hb⟩
end Go.Proofs.YtclhglickeoocaaGreatDoor
end

section
namespace Go.Proofs.YtclhglickeoocaaGreatDoor
open Go.RowKit Go

set_option maxHeartbeats 1600000 in
/-- check. -/
theorem cCheck_any (p : Option Addr) (ca : Nat) (xs : List (Int × Int)) (w : World) (hx : PairsV w p xs) :
    Calls Tryz.prog 27 #[.slice p xs.length ca] w fun e w' => e = .returned (.int .i64 (formOf xs)) ∧ Below w.heap.size w w' := by
  have hm := hx.1
  by_cases hl : 4 < xs.length
  · have hr : formOf xs = 5 := by unfold formOf; rw [if_pos hl]
    rw [hr]
    clear hr hx
    go_enter Tryz.func27, Tryz.ntmps27
    go_wp2
    go_ret
    exact ⟨rfl, Below.refl _ _⟩
  · generalize hr : formOf xs = res
    have HR := Lib.hid hr
    clear hr
    have hl2 : xs.length ≤ 4 := by omega
    go_enter Tryz.func27, Tryz.ntmps27
    go_wp2
    go_loopw [10] (fun ii wr => ∃ (k : Nat), k ≤ xs.length ∧ ii = .int .i64 k ∧ Hid ((xs.take k).all pairOk = true) ∧ Below w.heap.size w wr) (fun ii _ => xs.length - (intOf ii).toNat)
    case atStart => exact ⟨0, Nat.zero_le _, rfl, Lib.hid rfl, Below.refl _ _⟩
    case round =>
      obtain ⟨k, hk, rfl, hrel, hb⟩ := hrel
      by_cases h0 : k < xs.length
      · obtain ⟨g, o, rfl, hg, hc1, hc2⟩ := (hx.below hb).at (i := k) h0
        have hbad : pairOk (xs.getD k (0, 0)) = false → res = 3 := fun h => by rw [← HR.out]; exact form_bad h0 hl h
        have hgood : pairOk (xs.getD k (0, 0)) = true → (xs.take (k + 1)).all pairOk = true := all_succ h0 hrel.out
        generalize hp : xs.getD k (0, 0) = q at *
        obtain ⟨a, b⟩ := q
        have HB := Lib.hid hbad
        have HG := Lib.hid hgood
        clear hp hx hbad hgood
        have below1 : ∀ w1 : World, Below w.heap.size wr w1 → Below w.heap.size w w1 := fun w1 h => hb.trans h
        have hsz := hb.size
        by_cases hbad2 : a < 1 ∨ 400 < a ∨ b < 1 ∨ 400 < b
        · have hz : res = 3 := HB.out (by cases h : pairOk (a, b) with | false => rfl | true => rw [pairOk_iff] at h; omega)
          have HZ := Lib.hid hz
          clear hz
          by_cases h1 : a < 1
          · have h1' : ¬ 1 ≤ a := by omega
            go_wp2
            go_ret
            exact ⟨iret HZ.out.symm, by refine below1 _ ?_; repeat' (first | exact Below.refl _ _ | exact hsz | refine Below.drew ?_ | refine Below.alloc ?_ ?_ _ | refine Below.setCell ?_ ?_ _ | refine below_drewN ?_ _)⟩
          have h1' : 1 ≤ a := by omega
          by_cases h2 : 400 < a
          · have h2' : ¬ a ≤ 400 := by omega
            go_wp2
            go_ret
            exact ⟨iret HZ.out.symm, by refine below1 _ ?_; repeat' (first | exact Below.refl _ _ | exact hsz | refine Below.drew ?_ | refine Below.alloc ?_ ?_ _ | refine Below.setCell ?_ ?_ _ | refine below_drewN ?_ _)⟩
          have h2' : a ≤ 400 := by omega
          by_cases h3 : b < 1
          · have h3' : ¬ 1 ≤ b := by omega
            go_wp2
            go_ret
            exact ⟨iret HZ.out.symm, by refine below1 _ ?_; repeat' (first | exact Below.refl _ _ | exact hsz | refine Below.drew ?_ | refine Below.alloc ?_ ?_ _ | refine Below.setCell ?_ ?_ _ | refine below_drewN ?_ _)⟩
          have h3' : 1 ≤ b := by omega
          have h4 : ¬ b ≤ 400 := by omega
          clear hbad2
          go_wp2
          go_ret
          exact ⟨iret HZ.out.symm, by refine below1 _ ?_; repeat' (first | exact Below.refl _ _ | exact hsz | refine Below.drew ?_ | refine Below.alloc ?_ ?_ _ | refine Below.setCell ?_ ?_ _ | refine below_drewN ?_ _)⟩
        · obtain ⟨h1, h2, h3, h4⟩ : 1 ≤ a ∧ a ≤ 400 ∧ 1 ≤ b ∧ b ≤ 400 := by omega
          have hz := HG.out (pairOk_iff.2 ⟨h1, h2, h3, h4⟩)
          have HZ := Lib.hid hz
          clear hz hbad2
          go_wp2
          go_roundw
          case rel => exact ⟨k + 1, by omega, by go_num, HZ, by refine below1 _ ?_; repeat' (first | exact Below.refl _ _ | exact hsz | refine Below.drew ?_ | refine Below.alloc ?_ ?_ _ | refine Below.setCell ?_ ?_ _ | refine below_drewN ?_ _)⟩
          case measure => simp [intOf]; omega
      · obtain rfl : k = xs.length := by omega
        have hz : res = 0 := by rw [← HR.out]; exact form_good hl hrel.out
        have HZ := Lib.hid hz
        clear hz hx
        go_wp2
        go_ret
        exact ⟨iret HZ.out.symm, hb⟩
end Go.Proofs.YtclhglickeoocaaGreatDoor
end

