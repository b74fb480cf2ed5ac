import Derived.Test.YtclhglickeoocaaGreatDoorProg
import Derived.WalkKit
import Derived.WalkSpells
import Derived.WalkLawsBesides
import Derived.BigQuiet
import Derived.Lib.Hide
import Derived.Deep.QuietTactic
import Derived.IntWalk
section
namespace Go.Proofs.YtclhglickeoocaaGreatDoor
open Go.RowKit Go

/-! Slices that only hold integers, and what walks leave. -/

theorem iret {k : IntKind} {a b : Int} (h : a = b) : Ending.returned (.int k a) = .returned (.int k b) := by rw [h]
theorem bret {a b : Bool} (h : a = b) : Ending.returned (.bool a) = .returned (.bool b) := by rw [h]
theorem dn_below (w : World) (n : Nat) : Below w.heap.size w (w.drewN n) := below_drewN (Below.refl _ _) n

/-- A callee that leaves the world alone, met behind some draws. -/
theorem qsame {P : Program} {f : FuncId} {args : Array Value} {w : World} {a n : Nat} {v : Value}
    (h : Calls P f args (w.drewN (a + n)) fun e w' => e = .returned v ∧ w.drewN (a + n) = w') :
    Calls P f args (w.drewN (a + n)) fun e w'' => e = .returned v ∧ ∃ m, w'' = w.drewN (a + m) := h.mono fun _ _ k => ⟨k.1, n, k.2.symm⟩

/-- The same for a callee that draws. -/
theorem qdrew {P : Program} {f : FuncId} {args : Array Value} {w : World} {a n : Nat} {v : Value}
    (h : Calls P f args (w.drewN (a + n)) fun e w' => e = .returned v ∧ ∃ m, w' = (w.drewN (a + n)).drewN m) :
    Calls P f args (w.drewN (a + n)) fun e w'' => e = .returned v ∧ ∃ m, w'' = w.drewN (a + m) :=
  h.mono fun _ _ k => ⟨k.1, let ⟨m, hm⟩ := k.2; ⟨n + m, by rw [hm, World.drewN_drewN, Nat.add_assoc]⟩⟩

/-- A slice at p reads as these pairs: a struct of two integers each. -/
def PairsV (w : World) (p : Option Addr) (xs : List (Int × Int)) : Prop :=
  xs.length ≤ 1099511627776 ∧ (xs = [] ∨ ∃ g off, p = some ⟨g, off, none⟩ ∧ g < w.heap.size ∧
    ∀ i, i < xs.length → w.cell? ⟨g, off + i * 2, none⟩ = some (.int .i64 (xs.getD i (0, 0)).1) ∧ w.cell? ⟨g, off + i * 2 + 1, none⟩ = some (.int .i64 (xs.getD i (0, 0)).2))

theorem PairsV.at {w : World} {p : Option Addr} {xs : List (Int × Int)} (h : PairsV w p xs) {i : Nat} (hi : i < xs.length) :
    ∃ g off, p = some ⟨g, off, none⟩ ∧ g < w.heap.size ∧ w.cell? ⟨g, off + i * 2, none⟩ = some (.int .i64 (xs.getD i (0, 0)).1) ∧ w.cell? ⟨g, off + i * 2 + 1, none⟩ = some (.int .i64 (xs.getD i (0, 0)).2) := by
  rcases h.2 with h | ⟨g, off, h1, h2, h3⟩
  · rw [h] at hi; exact absurd hi (Nat.not_lt_zero _)
  · exact ⟨g, off, h1, h2, h3 i hi⟩

theorem PairsV.below {w w' : World} {p : Option Addr} {xs : List (Int × Int)} (h : PairsV w p xs) (hb : Below w.heap.size w w') : PairsV w' p xs := by
  refine ⟨h.1, ?_⟩
  rcases h.2 with h | ⟨g, off, h1, h2, h3⟩
  · exact .inl h
  · exact .inr ⟨g, off, h1, Nat.lt_of_lt_of_le h2 hb.size, fun i hi => ⟨(hb.cell (p := ⟨g, off + i * 2, none⟩) h2).trans (h3 i hi).1, (hb.cell (p := ⟨g, off + i * 2 + 1, none⟩) h2).trans (h3 i hi).2⟩⟩

/-- How many wheels of a train have t teeth. -/
def cnt (t : Int) : List (Int × Int) → Nat
  | [] => 0
  | p :: r => (if p.1 = t then 1 else 0) + (if p.2 = t then 1 else 0) + cnt t r

theorem cnt_append (t : Int) (a b : List (Int × Int)) : cnt t (a ++ b) = cnt t a + cnt t b := by
  induction a with
  | nil => simp [cnt]
  | cons p r ih => simp only [List.cons_append, cnt, ih]; omega

theorem pairs_take_succ {l : List (Int × Int)} {k : Nat} (h : k < l.length) : l.take (k + 1) = l.take k ++ [l.getD k (0, 0)] := by
  rw [List.take_add_one, List.getElem?_eq_getElem h, List.getD_eq_getElem?_getD, List.getElem?_eq_getElem h]; rfl

theorem cnt_succ (t : Int) {l : List (Int × Int)} {k : Nat} (h : k < l.length) : cnt t (l.take (k + 1)) = cnt t (l.take k) + (if (l.getD k (0, 0)).1 = t then 1 else 0) + (if (l.getD k (0, 0)).2 = t then 1 else 0) := by
  rw [pairs_take_succ h, cnt_append]; simp only [cnt]; omega

theorem cnt_le (t : Int) (l : List (Int × Int)) : cnt t l ≤ 2 * l.length := by
  induction l with
  | nil => simp [cnt]
  | cons p r ih => simp only [cnt, List.length_cons]; split <;> split <;> omega

theorem pairs_drop {l : List (Int × Int)} {k : Nat} (h : k < l.length) : l.drop k = l.getD k (0, 0) :: l.drop (k + 1) := by
  rw [List.drop_eq_getElem_cons h, List.getD_eq_getElem?_getD, List.getElem?_eq_getElem h]; rfl

/-- How many wheels of a stock have t teeth. -/
def hasOf (t : Int) : List (Int × Int) → Int
  | [] => 0
  | p :: r => if p.1 = t then p.2 else hasOf t r

def teethOk (a : Int) : Bool := decide (1 ≤ a) && decide (a ≤ 400)
def pairOk (p : Int × Int) : Bool := teethOk p.1 && teethOk p.2
/-- The error of a train. -/
def formOf (l : List (Int × Int)) : Int := if 4 < l.length then 5 else if l.all pairOk then 0 else 3

def wheelOk (p : Int × Int) : Bool := decide (6 ≤ p.1) && decide (p.1 ≤ 400) && decide (1 ≤ p.2) && decide (p.2 ≤ 999999999)
def stockFrom (prev : Option Int) : List (Int × Int) → Int
  | [] => 0
  | p :: r => if wheelOk p = false then 3 else if (match prev with | some q => decide (p.1 ≤ q) | none => false) = true then 11 else stockFrom (some p.1) r
/-- The error of a stock. -/
def stockOf (l : List (Int × Int)) : Int := if l = [] then 12 else if 32 < l.length then 5 else stockFrom none l

def buildsOf (stock train : List (Int × Int)) : Bool := train.all fun p => decide ((cnt p.1 train : Int) ≤ hasOf p.1 stock) && decide ((cnt p.2 train : Int) ≤ hasOf p.2 stock)

end Go.Proofs.YtclhglickeoocaaGreatDoor
end

section
namespace Go.Proofs.YtclhglickeoocaaGreatDoor
open Go.RowKit Go

set_option maxHeartbeats 800000 in
/-- count of the reference of chapter 5. -/
theorem gCount_any (p : Option Addr) (ca : Nat) (xs : List (Int × Int)) (t : Int) (w : World) (hx : PairsV w p xs) :
    Calls Tryz.prog 25 #[.slice p xs.length ca, .int .i64 t] w fun e w' => e = .returned (.int .i64 (cnt t xs)) ∧ w = w' := by
  have hm := hx.1
  go_enter Tryz.func25, Tryz.ntmps25
  go_wp2
  go_loop [5, 6] (fun ni ii => ∃ (k : Nat), k ≤ xs.length ∧ ii = .int .i64 k ∧ ni = .int .i64 (cnt t (xs.take k) : Nat)) (fun _ ii => xs.length - (intOf ii).toNat)
  case atStart => exact ⟨0, Nat.zero_le _, rfl, rfl⟩
  case round =>
    obtain ⟨k, hk, rfl, rfl⟩ := hrel
    by_cases h0 : k < xs.length
    · obtain ⟨g, o, rfl, hg, hc1, hc2⟩ := hx.at (i := k) h0
      have hs := cnt_succ t h0
      have hle := cnt_le t (xs.take k)
      have hl : (xs.take k).length ≤ k := List.length_take_le _ _
      generalize hn : cnt t (xs.take k) = n at *
      generalize hn' : cnt t (xs.take (k + 1)) = n' at *
      generalize hp : xs.getD k (0, 0) = q at *
      obtain ⟨a, b⟩ := q
      have HS : Hid (n' = n + (if a = t then 1 else 0) + (if b = t then 1 else 0)) := Lib.hid hs
      have hn2 : n ≤ 2199023255552 := by omega
      have HN := Lib.hid hn'
      clear hs hn hp hn' hx hle hl
      by_cases ha : a = t
      · have ha' : (a == t) = true := by simp [ha]
        by_cases hb : b = t
        · have hb' : (b == t) = true := by simp [hb]
          have HA := Lib.hid ha
          have HB := Lib.hid hb
          clear ha hb
          go_wp2
          go_round
          case rel => exact ⟨k + 1, by omega, by go_num, by rw [HN.out, HS.out, if_pos HA.out, if_pos HB.out]; go_num⟩
          case measure => simp [intOf]; omega
        · have hb' : (b == t) = false := by simp [hb]
          have HA := Lib.hid ha
          have HB := Lib.hid hb
          clear ha hb
          go_wp2
          go_round
          case rel => exact ⟨k + 1, by omega, by go_num, by rw [HN.out, HS.out, if_pos HA.out, if_neg HB.out]; go_num⟩
          case measure => simp [intOf]; omega
      · have ha' : (a == t) = false := by simp [ha]
        by_cases hb : b = t
        · have hb' : (b == t) = true := by simp [hb]
          have HA := Lib.hid ha
          have HB := Lib.hid hb
          clear ha hb
          go_wp2
          go_round
          case rel => exact ⟨k + 1, by omega, by go_num, by rw [HN.out, HS.out, if_neg HA.out, if_pos HB.out]; go_num⟩
          case measure => simp [intOf]; omega
        · have hb' : (b == t) = false := by simp [hb]
          have HA := Lib.hid ha
          have HB := Lib.hid hb
          clear ha hb
          go_wp2
          go_round
          case rel => exact ⟨k + 1, by omega, by go_num, by rw [HN.out, HS.out, if_neg HA.out, if_neg HB.out]; go_num⟩
          case measure => simp [intOf]; omega
    · obtain rfl : k = xs.length := by omega
      have he : cnt t (xs.take xs.length) = cnt t xs := by rw [List.take_length]
      generalize cnt t (xs.take xs.length) = n at *
      have HE := Lib.hid he
      clear he hx
      go_wp2
      go_ret
      exact ⟨iret (by rw [HE.out]), rfl⟩
end Go.Proofs.YtclhglickeoocaaGreatDoor
end

section
namespace Go.Proofs.YtclhglickeoocaaGreatDoor
open Go.RowKit Go

set_option maxHeartbeats 800000 in
/-- has of the reference of chapter 5. -/
theorem gHas_any (p : Option Addr) (ca : Nat) (xs : List (Int × Int)) (t : Int) (w : World) (hx : PairsV w p xs) :
    Calls Tryz.prog 26 #[.slice p xs.length ca, .int .i64 t] w fun e w' => e = .returned (.int .i64 (hasOf t xs)) ∧ w = w' := by
  have hm := hx.1
  generalize hr : hasOf t xs = res
  have HR := Lib.hid hr
  clear hr
  go_enter Tryz.func26, Tryz.ntmps26
  go_wp2
  go_loop [5] (fun ii => ∃ (k : Nat), k ≤ xs.length ∧ ii = .int .i64 k ∧ Hid (res = hasOf t (xs.drop k))) (fun ii => xs.length - (intOf ii).toNat)
  case atStart => exact ⟨0, Nat.zero_le _, rfl, Lib.hid HR.out.symm⟩
  case round =>
    obtain ⟨k, hk, rfl, hrel⟩ := hrel
    by_cases h0 : k < xs.length
    · obtain ⟨g, o, rfl, hg, hc1, hc2⟩ := hx.at (i := k) h0
      have hd := pairs_drop h0
      generalize hp : xs.getD k (0, 0) = q at *
      obtain ⟨a, b⟩ := q
      have hs : res = if a = t then b else hasOf t (xs.drop (k + 1)) := by rw [hrel.out, hd]; rfl
      have HS := Lib.hid hs
      clear hs hp hx hd
      by_cases ha : a = t
      · have ha' : (a == t) = true := by simp [ha]
        have HA := Lib.hid ha
        clear ha
        go_wp2
        go_ret
        exact ⟨iret (by rw [HS.out, if_pos HA.out]), rfl⟩
      · have ha' : (a == t) = false := by simp [ha]
        have HA := Lib.hid ha
        clear ha
        go_wp2
        go_round
        case rel => exact ⟨k + 1, by omega, by go_num, Lib.hid (by rw [HS.out, if_neg HA.out])⟩
        case measure => simp [intOf]; omega
    · obtain rfl : k = xs.length := by omega
      have he : res = 0 := by rw [hrel.out, List.drop_length]; rfl
      have HE := Lib.hid he
      clear he hx
      go_wp2
      go_ret
      exact ⟨iret (by rw [HE.out]), rfl⟩

theorem pairOk_iff {a b : Int} : pairOk (a, b) = true ↔ 1 ≤ a ∧ a ≤ 400 ∧ 1 ≤ b ∧ b ≤ 400 := by
  simp [pairOk, teethOk, and_assoc]

theorem form_bad {xs : List (Int × Int)} {k : Nat} (h0 : k < xs.length) (hl : ¬ 4 < xs.length) (h : pairOk (xs.getD k (0, 0)) = false) : formOf xs = 3 := by
  unfold formOf
  rw [if_neg hl, if_neg]
  rw [Bool.not_eq_true, List.all_eq_false]
  refine ⟨xs.getD k (0, 0), ?_, by rw [h]; decide⟩
  rw [List.getD_eq_getElem?_getD, List.getElem?_eq_getElem h0]; exact List.getElem_mem h0

theorem form_good {xs : List (Int × Int)} (hl : ¬ 4 < xs.length) (h : (xs.take xs.length).all pairOk = true) : formOf xs = 0 := by
  unfold formOf
  rw [List.take_length] at h
  rw [if_neg hl, if_pos h]

theorem all_succ {f : Int × Int → Bool} {xs : List (Int × Int)} {k : Nat} (h0 : k < xs.length) (h : (xs.take k).all f = true) (h2 : f (xs.getD k (0, 0)) = true) : (xs.take (k + 1)).all f = true := by
  rw [pairs_take_succ h0, List.all_append, h]; simp only [List.all_cons, List.all_nil, h2, Bool.and_self]

set_option maxHeartbeats 1600000 in
/-- CheckForm of the reference of chapter 5. -/
theorem gForm_any (p : Option Addr) (ca : Nat) (xs : List (Int × Int)) (w : World) (hx : PairsV w p xs) :
    Calls Tryz.prog 8 #[.slice p xs.length ca] w fun e w' => e = .returned (.int .i64 (formOf xs)) ∧ Below w.heap.size w w' := by
  have hm := hx.1
  by_cases hl : 4 < xs.length
  · have hr : formOf xs = 5 := by unfold formOf; rw [if_pos hl]
    rw [hr]
    clear hr hx
    go_enter Tryz.func8, Tryz.ntmps8
    go_wp2
    go_ret
    exact ⟨rfl, Below.refl _ _⟩
  · generalize hr : formOf xs = res
    have HR := Lib.hid hr
    clear hr
    have hl2 : xs.length ≤ 4 := by omega
    go_enter Tryz.func8, Tryz.ntmps8
    go_wp2
    go_loopw [3] (fun ii wr => ∃ (k : Nat), k ≤ xs.length ∧ ii = .int .i64 k ∧ Hid ((xs.take k).all pairOk = true) ∧ Below w.heap.size w wr) (fun ii _ => xs.length - (intOf ii).toNat)
    case atStart => exact ⟨0, Nat.zero_le _, rfl, Lib.hid rfl, Below.refl _ _⟩
    case round =>
      obtain ⟨k, hk, rfl, hrel, hb⟩ := hrel
      by_cases h0 : k < xs.length
      · obtain ⟨g, o, rfl, hg, hc1, hc2⟩ := (hx.below hb).at (i := k) h0
        have hbad : pairOk (xs.getD k (0, 0)) = false → res = 3 := fun h => by rw [← HR.out]; exact form_bad h0 hl h
        have hgood : pairOk (xs.getD k (0, 0)) = true → (xs.take (k + 1)).all pairOk = true := all_succ h0 hrel.out
        generalize hp : xs.getD k (0, 0) = q at *
        obtain ⟨a, b⟩ := q
        have HB := Lib.hid hbad
        have HG := Lib.hid hgood
        clear hp hx hbad hgood
        have below1 : ∀ w1 : World, Below w.heap.size wr w1 → Below w.heap.size w w1 := fun w1 h => hb.trans h
        have hsz := hb.size
        by_cases hbad2 : a < 1 ∨ 400 < a ∨ b < 1 ∨ 400 < b
        · have hz : res = 3 := HB.out (by cases h : pairOk (a, b) with | false => rfl | true => rw [pairOk_iff] at h; omega)
          have HZ := Lib.hid hz
          clear hz
          by_cases h1 : a < 1
          · go_wp2
            go_ret
            exact ⟨iret HZ.out.symm, by refine below1 _ ?_; repeat' (first | exact Below.refl _ _ | exact hsz | refine Below.drew ?_ | refine Below.alloc ?_ ?_ _ | refine Below.setCell ?_ ?_ _)⟩
          by_cases h2 : 400 < a
          · go_wp2
            go_ret
            exact ⟨iret HZ.out.symm, by refine below1 _ ?_; repeat' (first | exact Below.refl _ _ | exact hsz | refine Below.drew ?_ | refine Below.alloc ?_ ?_ _ | refine Below.setCell ?_ ?_ _)⟩
          by_cases h3 : b < 1
          · go_wp2
            go_ret
            exact ⟨iret HZ.out.symm, by refine below1 _ ?_; repeat' (first | exact Below.refl _ _ | exact hsz | refine Below.drew ?_ | refine Below.alloc ?_ ?_ _ | refine Below.setCell ?_ ?_ _)⟩
          have h4 : 400 < b := by omega
          clear hbad2
          go_wp2
          go_ret
          exact ⟨iret HZ.out.symm, by refine below1 _ ?_; repeat' (first | exact Below.refl _ _ | exact hsz | refine Below.drew ?_ | refine Below.alloc ?_ ?_ _ | refine Below.setCell ?_ ?_ _)⟩
        · obtain ⟨h1, h2, h3, h4⟩ : 1 ≤ a ∧ a ≤ 400 ∧ 1 ≤ b ∧ b ≤ 400 := by omega
          have hz := HG.out (pairOk_iff.2 ⟨h1, h2, h3, h4⟩)
          have HZ := Lib.hid hz
          clear hz hbad2
          go_wp2
          go_roundw
          case rel => exact ⟨k + 1, by omega, by go_num, HZ, by refine below1 _ ?_; repeat' (first | exact Below.refl _ _ | exact hsz | refine Below.drew ?_ | refine Below.alloc ?_ ?_ _ | refine Below.setCell ?_ ?_ _)⟩
          case measure => simp [intOf]; omega
      · obtain rfl : k = xs.length := by omega
        have hz : res = 0 := by rw [← HR.out]; exact form_good hl hrel.out
        have HZ := Lib.hid hz
        clear hz hx
        go_wp2
        go_ret
        exact ⟨iret HZ.out.symm, hb⟩
end Go.Proofs.YtclhglickeoocaaGreatDoor
end

section
namespace Go.Proofs.YtclhglickeoocaaGreatDoor
open Go.RowKit Go

theorem wheelOk_iff {a b : Int} : wheelOk (a, b) = true ↔ 6 ≤ a ∧ a ≤ 400 ∧ 1 ≤ b ∧ b ≤ 999999999 := by
  simp [wheelOk, and_assoc]

/-- The teeth of the wheel ahead of k. -/
def prevAt (xs : List (Int × Int)) (k : Nat) : Option Int := if k = 0 then none else some (xs.getD (k - 1) (0, 0)).1

set_option maxHeartbeats 1600000 in
/-- CheckStock of the reference of chapter 5. -/
theorem gStock_any (p : Option Addr) (ca : Nat) (xs : List (Int × Int)) (w : World) (hx : PairsV w p xs) :
    Calls Tryz.prog 5 #[.slice p xs.length ca] w fun e w' => e = .returned (.int .i64 (stockOf xs)) ∧ Below w.heap.size w w' := by
  have hm := hx.1
  by_cases he : xs = []
  · subst he
    have hr : stockOf [] = 12 := rfl
    rw [hr]
    clear hr hx
    go_enter Tryz.func5, Tryz.ntmps5
    go_wp2
    go_ret
    exact ⟨rfl, Below.refl _ _⟩
  have hpos : 0 < xs.length := List.length_pos_iff.2 he
  have hne : ((xs.length : Int) == 0) = false := by rw [beq_eq_false_iff_ne]; omega
  by_cases hl : 32 < xs.length
  · have hr : stockOf xs = 5 := by unfold stockOf; rw [if_neg he, if_pos hl]
    rw [hr]
    clear hr hx he
    go_enter Tryz.func5, Tryz.ntmps5
    go_wp2
    go_ret
    exact ⟨rfl, Below.refl _ _⟩
  generalize hr : stockOf xs = res
  have hr2 : res = stockFrom (prevAt xs 0) (xs.drop 0) := by rw [← hr]; unfold stockOf; rw [if_neg he, if_neg hl]; rfl
  have HR := Lib.hid hr2
  clear hr hr2 he
  have hl2 : xs.length ≤ 32 := by omega
  go_enter Tryz.func5, Tryz.ntmps5
  go_wp2
  go_loopw [3] (fun ii wr => ∃ (k : Nat), k ≤ xs.length ∧ ii = .int .i64 k ∧ Hid (res = stockFrom (prevAt xs k) (xs.drop k)) ∧ ∃ nd, wr = w.drewN nd) (fun ii _ => xs.length - (intOf ii).toNat)
  case atStart => exact ⟨0, Nat.zero_le _, rfl, HR, 0, rfl⟩
  case round =>
    obtain ⟨k, hk, rfl, hrel, nd, rfl⟩ := hrel
    by_cases h0 : k < xs.length
    · obtain ⟨g, o, rfl, hg, hc1, hc2⟩ := hx.at (i := k) h0
      have hd := pairs_drop h0
      have hnext : prevAt xs (k + 1) = some (xs.getD k (0, 0)).1 := rfl
      generalize hp : xs.getD k (0, 0) = q at *
      obtain ⟨a, b⟩ := q
      have hs : res = if wheelOk (a, b) = false then 3 else if (match prevAt xs k with | some q => decide (a ≤ q) | none => false) = true then 11 else stockFrom (prevAt xs (k + 1)) (xs.drop (k + 1)) := by rw [hrel.out, hd, hnext]; rfl
      have HS := Lib.hid hs
      clear hs hp hd hnext
      by_cases hbad : a < 6 ∨ 400 < a ∨ b < 1 ∨ 999999999 < b
      · have hz : res = 3 := by
          rw [HS.out, if_pos]
          cases h : wheelOk (a, b) with
          | false => rfl
          | true => rw [wheelOk_iff] at h; omega
        have HZ := Lib.hid hz
        clear hz hx
        by_cases h1 : a < 6
        · go_wp2
          go_ret
          exact ⟨iret HZ.out.symm, dn_below _ _⟩
        by_cases h2 : 400 < a
        · go_wp2
          go_ret
          exact ⟨iret HZ.out.symm, dn_below _ _⟩
        by_cases h3 : b < 1
        · go_wp2
          go_ret
          exact ⟨iret HZ.out.symm, dn_below _ _⟩
        have h4 : 999999999 < b := by omega
        clear hbad
        go_wp2
        go_ret
        exact ⟨iret HZ.out.symm, dn_below _ _⟩
      · obtain ⟨h1, h2, h3, h4⟩ : 6 ≤ a ∧ a ≤ 400 ∧ 1 ≤ b ∧ b ≤ 999999999 := by omega
        have hok : ¬ wheelOk (a, b) = false := by rw [wheelOk_iff.2 ⟨h1, h2, h3, h4⟩]; decide
        have HO := Lib.hid hok
        clear hbad hok
        by_cases hk0 : k = 0
        · subst hk0
          simp only [Nat.zero_mul, Nat.add_zero] at hc1 hc2
          have hz : res = stockFrom (prevAt xs (0 + 1)) (xs.drop (0 + 1)) := by rw [HS.out, if_neg HO.out, if_neg]; simp [prevAt]
          have HZ := Lib.hid hz
          clear hz hx
          go_wp2
          go_quiet (fail)
          go_wp2
          go_roundw
          case rel => exact ⟨1, by omega, by go_num, HZ, by first | exact ⟨_, rfl⟩ | exact ⟨nd + 1, rfl⟩⟩
          case measure => simp [intOf]; omega
        · obtain ⟨j, rfl⟩ : ∃ j, k = j + 1 := ⟨k - 1, by omega⟩
          obtain ⟨g2, o2, hpp, hg2, hc3, hc4⟩ := hx.at (i := j) (by omega)
          injection hpp with hpp; injection hpp with e1 e2 e3
          subst e1; subst e2
          have hpv : prevAt xs (j + 1) = some (xs.getD j (0, 0)).1 := rfl
          generalize hp : xs.getD j (0, 0) = q at *
          obtain ⟨a2, b2⟩ := q
          have hz : res = if a ≤ a2 then 11 else stockFrom (prevAt xs (j + 1 + 1)) (xs.drop (j + 1 + 1)) := by
            rw [HS.out, if_neg HO.out, hpv]
            by_cases h : a ≤ a2 <;> simp [h]
          have HZ := Lib.hid hz
          clear hz hx hpv hp hk0
          have hw1 : IntKind.i64.wrap (((j + 1 : Nat) : Int) - 1) = ((j + 1 : Nat) : Int) - 1 := IntWalk.i64_in _ (by omega)
          have hw2 : 0 ≤ ((j + 1 : Nat) : Int) - 1 := by omega
          have hw3 : (((j + 1 : Nat) : Int) - 1).toNat = j := by omega
          by_cases hle : a ≤ a2
          · have hz : res = 11 := by rw [HZ.out, if_pos hle]
            have HY := Lib.hid hz
            clear hz
            go_wp2
            go_quiet (fail)
            go_wp2
            go_ret
            exact ⟨iret HY.out.symm, by first | exact dn_below _ _ | exact below_drewN (dn_below _ _) _⟩
          · have hz : res = stockFrom (prevAt xs (j + 1 + 1)) (xs.drop (j + 1 + 1)) := by rw [HZ.out, if_neg hle]
            have HY := Lib.hid hz
            clear hz
            go_wp2
            go_quiet (fail)
            go_wp2
            go_roundw
            case rel => exact ⟨j + 1 + 1, by omega, by go_num, HY, by first | exact ⟨_, rfl⟩ | exact ⟨nd + 1, rfl⟩⟩
            case measure => simp [intOf]; omega
    · obtain rfl : k = xs.length := by omega
      have hz : res = 0 := by rw [hrel.out, List.drop_length]; rfl
      have HZ := Lib.hid hz
      clear hz hx
      go_wp2
      go_ret
      exact ⟨iret HZ.out.symm, dn_below _ _⟩
end Go.Proofs.YtclhglickeoocaaGreatDoor
end

section
namespace Go.Proofs.YtclhglickeoocaaGreatDoor
open Go.RowKit Go

theorem builds_drop {s t : List (Int × Int)} {k : Nat} (h0 : k < t.length) :
    ((t.drop k).all fun p => decide ((cnt p.1 t : Int) ≤ hasOf p.1 s) && decide ((cnt p.2 t : Int) ≤ hasOf p.2 s)) =
      (decide ((cnt (t.getD k (0, 0)).1 t : Int) ≤ hasOf (t.getD k (0, 0)).1 s) && decide ((cnt (t.getD k (0, 0)).2 t : Int) ≤ hasOf (t.getD k (0, 0)).2 s) &&
        ((t.drop (k + 1)).all fun p => decide ((cnt p.1 t : Int) ≤ hasOf p.1 s) && decide ((cnt p.2 t : Int) ≤ hasOf p.2 s))) := by
  rw [pairs_drop h0, List.all_cons]

theorem PairsV.drewN {w : World} {p : Option Addr} {xs : List (Int × Int)} (h : PairsV w p xs) (n : Nat) : PairsV (w.drewN n) p xs := h.below (dn_below w n)

set_option maxHeartbeats 1600000 in
/-- Builds of the reference of chapter 5. -/
theorem gBuilds_any (p q : Option Addr) (ca cb : Nat) (xs ys : List (Int × Int)) (w : World) (hx : PairsV w p xs) (hy : PairsV w q ys) :
    Calls Tryz.prog 10 #[.slice p xs.length ca, .slice q ys.length cb] w fun e w' => e = .returned (.bool (buildsOf xs ys)) ∧ Below w.heap.size w w' := by
  have hm := hx.1
  have hm2 := hy.1
  generalize hr : buildsOf xs ys = res
  have hr2 : res = ((ys.drop 0).all fun p => decide ((cnt p.1 ys : Int) ≤ hasOf p.1 xs) && decide ((cnt p.2 ys : Int) ≤ hasOf p.2 xs)) := by rw [← hr]; rfl
  have HR := Lib.hid hr2
  clear hr hr2
  go_enter Tryz.func10, Tryz.ntmps10
  go_wp2
  go_loopw [5] (fun ii wr => ∃ (k : Nat), k ≤ ys.length ∧ ii = .int .i64 k ∧ Hid (res = ((ys.drop k).all fun p => decide ((cnt p.1 ys : Int) ≤ hasOf p.1 xs) && decide ((cnt p.2 ys : Int) ≤ hasOf p.2 xs))) ∧ ∃ nd, wr = w.drewN nd) (fun ii _ => ys.length - (intOf ii).toNat)
  case atStart => exact ⟨0, Nat.zero_le _, rfl, HR, 0, rfl⟩
  case round =>
    obtain ⟨k, hk, rfl, hrel, nd, rfl⟩ := hrel
    by_cases h0 : k < ys.length
    · obtain ⟨g, o, rfl, hg, hc1, hc2⟩ := hy.at (i := k) h0
      have hd := builds_drop (s := xs) h0
      rw [← hrel.out] at hd
      have hcnt : ∀ t n, Calls Tryz.prog 25 #[.slice (some ⟨g, o, none⟩) ys.length cb, .int .i64 t] (w.drewN (nd + n)) fun e w'' => e = .returned (.int .i64 (cnt t ys)) ∧ ∃ m, w'' = w.drewN (nd + m) :=
        fun t n => qsame (gCount_any _ _ _ _ _ (hy.drewN (nd + n)))
      have hhas : ∀ t n, Calls Tryz.prog 26 #[.slice p xs.length ca, .int .i64 t] (w.drewN (nd + n)) fun e w'' => e = .returned (.int .i64 (hasOf t xs)) ∧ ∃ m, w'' = w.drewN (nd + m) :=
        fun t n => qsame (gHas_any _ _ _ _ _ (hx.drewN (nd + n)))
      generalize hp : ys.getD k (0, 0) = pr at *
      obtain ⟨a, b⟩ := pr
      simp only at hc1 hc2 hd
      have C1 := Lib.hid hcnt
      have C3 := Lib.hid hhas
      have HD := Lib.hid hd
      clear hd hp hcnt hhas
      by_cases h1 : hasOf a xs < (cnt a ys : Int)
      · have hz : res = false := by rw [HD.out, decide_eq_false (by omega)]; rfl
        have HZ := Lib.hid hz
        clear hz hx hy
        go_wp2
        go_quiet ((first | (go_at_call 25; exact C1.out _ _) | (go_at_call 26; exact C3.out _ _)))
        go_wp2
        go_ret
        exact ⟨bret HZ.out.symm, by first | exact dn_below _ _ | exact below_drewN (dn_below _ _) _⟩
      · have h1' : decide (hasOf a xs < (cnt a ys : Int)) = false := by simpa using h1
        by_cases h2 : hasOf b xs < (cnt b ys : Int)
        · have hz : res = false := by rw [HD.out, decide_eq_true (by omega), decide_eq_false (by omega)]; rfl
          have HZ := Lib.hid hz
          clear hz hx hy
          go_wp2
          go_quiet ((first | (go_at_call 25; exact C1.out _ _) | (go_at_call 26; exact C3.out _ _)))
          go_wp2
          go_ret
          exact ⟨bret HZ.out.symm, by first | exact dn_below _ _ | exact below_drewN (dn_below _ _) _⟩
        · have h2' : decide (hasOf b xs < (cnt b ys : Int)) = false := by simpa using h2
          have hz : res = ((ys.drop (k + 1)).all fun p => decide ((cnt p.1 ys : Int) ≤ hasOf p.1 xs) && decide ((cnt p.2 ys : Int) ≤ hasOf p.2 xs)) := by
            rw [HD.out, decide_eq_true (by omega), decide_eq_true (by omega)]; rfl
          have HZ := Lib.hid hz
          clear hz hx hy
          go_wp2
          go_quiet ((first | (go_at_call 25; exact C1.out _ _) | (go_at_call 26; exact C3.out _ _)))
          go_wp2
          go_roundw
          case rel => exact ⟨k + 1, by omega, by go_num, HZ, by first | exact ⟨_, rfl⟩ | exact ⟨nd + 1, rfl⟩⟩
          case measure => simp [intOf]; omega
    · obtain rfl : k = ys.length := by omega
      have hz : res = true := by rw [hrel.out, List.drop_length]; rfl
      have HZ := Lib.hid hz
      clear hz hx hy
      go_wp2
      go_ret
      exact ⟨bret HZ.out.symm, dn_below _ _⟩
end Go.Proofs.YtclhglickeoocaaGreatDoor
end

