import Derived.Test.YtggcnnpklkmeoaaGreatDoorProg
import Derived.WalkKit
import Derived.WalkSpells
import Derived.WalkLawsBesides
import Derived.BigQuiet
import Derived.Lib.Hide
import Derived.Deep.QuietTactic
import Derived.IntWalk
import Derived.Laws.AppendOwn
import Derived.Laws.AppendOwnNone
import Derived.OwnWalk
import Derived.Laws.Externs
import Derived.Deep.RegionLaw
import Derived.Deep.AppendLies
section
namespace Go.Proofs.YtggcnnpklkmeoaaGreatDoor
open Go.RowKit Go

/-! Slices that only hold integers, and what walks leave. -/

theorem iret {k : IntKind} {a b : Int} (h : a = b) : Ending.returned (.int k a) = .returned (.int k b) := by rw [h]
theorem bret {a b : Bool} (h : a = b) : Ending.returned (.bool a) = .returned (.bool b) := by rw [h]
theorem dn_below (w : World) (n : Nat) : Below w.heap.size w (w.drewN n) := below_drewN (Below.refl _ _) n

/-- A callee that leaves the world alone, met behind some draws. -/
theorem qsame {P : Program} {f : FuncId} {args : Array Value} {w : World} {a n : Nat} {v : Value}
    (h : Calls P f args (w.drewN (a + n)) fun e w' => e = .returned v ∧ w.drewN (a + n) = w') :
    Calls P f args (w.drewN (a + n)) fun e w'' => e = .returned v ∧ ∃ m, w'' = w.drewN (a + m) := h.mono fun _ _ k => ⟨k.1, n, k.2.symm⟩

/-- The same for a callee that draws. -/
theorem qdrew {P : Program} {f : FuncId} {args : Array Value} {w : World} {a n : Nat} {v : Value}
    (h : Calls P f args (w.drewN (a + n)) fun e w' => e = .returned v ∧ ∃ m, w' = (w.drewN (a + n)).drewN m) :
    Calls P f args (w.drewN (a + n)) fun e w'' => e = .returned v ∧ ∃ m, w'' = w.drewN (a + m) :=
  h.mono fun _ _ k => ⟨k.1, let ⟨m, hm⟩ := k.2; ⟨n + m, by rw [hm, World.drewN_drewN, Nat.add_assoc]⟩⟩

/-- A slice at p reads as these pairs: a struct of two integers each. -/
def PairsV (w : World) (p : Option Addr) (xs : List (Int × Int)) : Prop :=
  xs.length ≤ 1099511627776 ∧ (xs = [] ∨ ∃ g off, p = some ⟨g, off, none⟩ ∧ g < w.heap.size ∧
    ∀ i, i < xs.length → w.cell? ⟨g, off + i * 2, none⟩ = some (.int .i64 (xs.getD i (0, 0)).1) ∧ w.cell? ⟨g, off + i * 2 + 1, none⟩ = some (.int .i64 (xs.getD i (0, 0)).2))

theorem PairsV.at {w : World} {p : Option Addr} {xs : List (Int × Int)} (h : PairsV w p xs) {i : Nat} (hi : i < xs.length) :
    ∃ g off, p = some ⟨g, off, none⟩ ∧ g < w.heap.size ∧ w.cell? ⟨g, off + i * 2, none⟩ = some (.int .i64 (xs.getD i (0, 0)).1) ∧ w.cell? ⟨g, off + i * 2 + 1, none⟩ = some (.int .i64 (xs.getD i (0, 0)).2) := by
  rcases h.2 with h | ⟨g, off, h1, h2, h3⟩
  · rw [h] at hi; exact absurd hi (Nat.not_lt_zero _)
  · exact ⟨g, off, h1, h2, h3 i hi⟩

theorem PairsV.below {w w' : World} {p : Option Addr} {xs : List (Int × Int)} (h : PairsV w p xs) (hb : Below w.heap.size w w') : PairsV w' p xs := by
  refine ⟨h.1, ?_⟩
  rcases h.2 with h | ⟨g, off, h1, h2, h3⟩
  · exact .inl h
  · exact .inr ⟨g, off, h1, Nat.lt_of_lt_of_le h2 hb.size, fun i hi => ⟨(hb.cell (p := ⟨g, off + i * 2, none⟩) h2).trans (h3 i hi).1, (hb.cell (p := ⟨g, off + i * 2 + 1, none⟩) h2).trans (h3 i hi).2⟩⟩

/-- How many wheels of a train have t teeth. -/
def cnt (t : Int) : List (Int × Int) → Nat
  | [] => 0
  | p :: r => (if p.1 = t then 1 else 0) + (if p.2 = t then 1 else 0) + cnt t r

theorem cnt_append (t : Int) (a b : List (Int × Int)) : cnt t (a ++ b) = cnt t a + cnt t b := by
  induction a with
  | nil => simp [cnt]
  | cons p r ih => simp only [List.cons_append, cnt, ih]; omega

theorem pairs_take_succ {l : List (Int × Int)} {k : Nat} (h : k < l.length) : l.take (k + 1) = l.take k ++ [l.getD k (0, 0)] := by
  rw [List.take_add_one, List.getElem?_eq_getElem h, List.getD_eq_getElem?_getD, List.getElem?_eq_getElem h]; rfl

theorem cnt_succ (t : Int) {l : List (Int × Int)} {k : Nat} (h : k < l.length) : cnt t (l.take (k + 1)) = cnt t (l.take k) + (if (l.getD k (0, 0)).1 = t then 1 else 0) + (if (l.getD k (0, 0)).2 = t then 1 else 0) := by
  rw [pairs_take_succ h, cnt_append]; simp only [cnt]; omega

theorem cnt_le (t : Int) (l : List (Int × Int)) : cnt t l ≤ 2 * l.length := by
  induction l with
  | nil => simp [cnt]
  | cons p r ih => simp only [cnt, List.length_cons]; split <;> split <;> omega

theorem pairs_drop {l : List (Int × Int)} {k : Nat} (h : k < l.length) : l.drop k = l.getD k (0, 0) :: l.drop (k + 1) := by
  rw [List.drop_eq_getElem_cons h, List.getD_eq_getElem?_getD, List.getElem?_eq_getElem h]; rfl

/-- How many wheels of a stock have t teeth. -/
def hasOf (t : Int) : List (Int × Int) → Int
  | [] => 0
  | p :: r => if p.1 = t then p.2 else hasOf t r

def teethOk (a : Int) : Bool := decide (1 ≤ a) && decide (a ≤ 400)
def pairOk (p : Int × Int) : Bool := teethOk p.1 && teethOk p.2
/-- The error of a train. -/
def formOf (l : List (Int × Int)) : Int := if 4 < l.length then 5 else if l.all pairOk then 0 else 3

def wheelOk (p : Int × Int) : Bool := decide (6 ≤ p.1) && decide (p.1 ≤ 400) && decide (1 ≤ p.2) && decide (p.2 ≤ 999999999)
def stockFrom (prev : Option Int) : List (Int × Int) → Int
  | [] => 0
  | p :: r => if wheelOk p = false then 3 else if (match prev with | some q => decide (p.1 ≤ q) | none => false) = true then 11 else stockFrom (some p.1) r
/-- The error of a stock. -/
def stockOf (l : List (Int × Int)) : Int := if l = [] then 12 else if 32 < l.length then 5 else stockFrom none l

def buildsOf (stock train : List (Int × Int)) : Bool := train.all fun p => decide ((cnt p.1 train : Int) ≤ hasOf p.1 stock) && decide ((cnt p.2 train : Int) ≤ hasOf p.2 stock)

end Go.Proofs.YtggcnnpklkmeoaaGreatDoor
end

section
namespace Go.Proofs.YtggcnnpklkmeoaaGreatDoor
open Go.RowKit Go

/-! Boxes of the call's own (structs, arrays that lie in memory), by their block. -/

def BoxAt (w : World) (g : Nat) (e : TypeId) (cs : List Value) : Prop := w.heap[g]? = some (.cells cs.toArray e (0, 0))

theorem BoxAt.lt {w : World} {g : Nat} {e : TypeId} {cs : List Value} (h : BoxAt w g e cs) : g < w.heap.size := (Array.getElem?_eq_some_iff.1 h).1

theorem BoxAt.cell {w : World} {g : Nat} {e : TypeId} {cs : List Value} (h : BoxAt w g e cs) (i : Nat) : w.cell? ⟨g, i, none⟩ = cs[i]? := by
  unfold BoxAt at h
  unfold World.cell?
  simp only [h]
  simp

theorem BoxAt.free {w : World} {g : Nat} {e : TypeId} {cs : List Value} (h : BoxAt w g e cs) (i : Nat) : w.frozen? ⟨g, i, none⟩ = false := by
  unfold BoxAt at h
  unfold World.frozen?
  simp only [h]
  simp

theorem BoxAt.below {w w' : World} {g b : Nat} {e : TypeId} {cs : List Value} (h : BoxAt w g e cs) (hb : Below b w w') (hg : g < b) : BoxAt w' g e cs := (hb.block g hg).trans h

theorem BoxAt.grown {w w' : World} {g : Nat} {e : TypeId} {cs : List Value} {row : Option Nat} (h : BoxAt w g e cs) (hg : w.grownBy w' row) (hne : some g ≠ row) : BoxAt w' g e cs := (hg.block g h.lt hne).trans h

theorem BoxAt.other {w : World} {g g2 : Nat} {e : TypeId} {cs : List Value} (h : BoxAt w g e cs) (hne : g ≠ g2) (i : Nat) (x : Value) : BoxAt (w.setCell ⟨g2, i, none⟩ x) g e cs := (Below.heap_setCell w ⟨g2, i, none⟩ x g hne).trans h

theorem BoxAt.store {w : World} {g : Nat} {e : TypeId} {cs : List Value} (h : BoxAt w g e cs) (i : Nat) (x : Value) : BoxAt (w.setCell ⟨g, i, none⟩ x) g e (cs.set i x) := by
  unfold BoxAt at h ⊢
  unfold World.setCell
  rw [Array.getElem?_modify, if_pos rfl, h]
  simp

theorem BoxAt.made (w : World) (e : TypeId) (cs : List Value) : BoxAt (w.alloc (.cells cs.toArray e)) w.heap.size e cs := heap_alloc_new w _

theorem BoxAt.alloc {w : World} {g : Nat} {e : TypeId} {cs : List Value} (h : BoxAt w g e cs) (o : Obj) : BoxAt (w.alloc o) g e cs := (Below.heap_alloc w o g h.lt).trans h

theorem BoxAt.drewN {w : World} {g : Nat} {e : TypeId} {cs : List Value} (h : BoxAt w g e cs) (n : Nat) : BoxAt (w.drewN n) g e cs := h

theorem rowBelow {w w' : World} {base n size : Nat} {e : TypeId} {v : Value} {xs : List Value} (h : w.ownsRow base e size v n xs) (hb : Below w.heap.size w w') : w'.ownsRow base e size v n xs :=
  h.kept (row := none) ⟨hb.os, hb.tape, hb.output, hb.size, fun k hk _ => hb.block k hk⟩ (by cases v.ownBlock <;> simp)

/-- A store into a block below the row's base leaves the row. -/
theorem rowStore {w : World} {base n size : Nat} {e : TypeId} {v : Value} {xs : List Value} (h : w.ownsRow base e size v n xs) {g : Nat} (hg : g < base) (i : Nat) (x : Value) : (w.setCell ⟨g, i, none⟩ x).ownsRow base e size v n xs := by
  refine h.kept (row := some g) ⟨rfl, rfl, rfl, by simp [World.setCell], fun k hk hk2 => Below.heap_setCell _ _ _ _ (by intro e; exact hk2 (by rw [e]))⟩ ?_
  by_cases hv : v.ownBlock = none
  · exact .inl hv
  · right
    intro e
    obtain ⟨_, h2⟩ := h
    rcases h2 with ⟨rfl, _⟩ | ⟨g2, cap, cur, rfl, hb, _⟩
    · exact hv rfl
    · simp only [Value.ownBlock] at e
      injection e with e
      omega

/-- A row's base may be lower. -/
theorem rowBase {w : World} {base base' n size : Nat} {e : TypeId} {v : Value} {xs : List Value} (h : w.ownsRow base e size v n xs) (hb : base' ≤ base) : w.ownsRow base' e size v n xs := by
  obtain ⟨h1, h2⟩ := h
  refine ⟨h1, ?_⟩
  rcases h2 with h2 | ⟨g, cap, cur, rfl, hb2, rest⟩
  · exact .inl h2
  · exact .inr ⟨g, cap, cur, rfl, by omega, rest⟩
end Go.Proofs.YtggcnnpklkmeoaaGreatDoor
end

section
namespace Go.Proofs.YtggcnnpklkmeoaaGreatDoor
open Go.RowKit Go

/-- A slice at p reads as these integers. -/
def IntV (w : World) (p : Option Addr) (xs : List Int) : Prop :=
  xs.length ≤ 1099511627776 ∧ (xs = [] ∨ ∃ g off, p = some ⟨g, off, none⟩ ∧ g < w.heap.size ∧ ∀ i, i < xs.length → w.cell? ⟨g, off + i, none⟩ = some (.int .i64 (xs.getD i 0)))

theorem IntV.at {w : World} {p : Option Addr} {xs : List Int} (h : IntV w p xs) {i : Nat} (hi : i < xs.length) :
    ∃ g off, p = some ⟨g, off, none⟩ ∧ g < w.heap.size ∧ w.cell? ⟨g, off + i, none⟩ = some (.int .i64 (xs.getD i 0)) := by
  rcases h.2 with h | ⟨g, off, h1, h2, h3⟩
  · rw [h] at hi; exact absurd hi (Nat.not_lt_zero _)
  · exact ⟨g, off, h1, h2, h3 i hi⟩

theorem IntV.below {w w' : World} {p : Option Addr} {xs : List Int} (h : IntV w p xs) (hb : Below w.heap.size w w') : IntV w' p xs := by
  refine ⟨h.1, ?_⟩
  rcases h.2 with h | ⟨g, off, h1, h2, h3⟩
  · exact .inl h
  · exact .inr ⟨g, off, h1, Nat.lt_of_lt_of_le h2 hb.size, fun i hi => (hb.cell (p := ⟨g, off + i, none⟩) h2).trans (h3 i hi)⟩

theorem IntV.take {w : World} {p : Option Addr} {xs : List Int} (h : IntV w p xs) (k : Nat) : IntV w p (xs.take k) := by
  refine ⟨Nat.le_trans (List.length_take_le' _ _) h.1, ?_⟩
  rcases h.2 with h | ⟨g, off, h1, h2, h3⟩
  · left; rw [h, List.take_nil]
  · refine .inr ⟨g, off, h1, h2, fun i hi => ?_⟩
    have hi2 : i < xs.length := Nat.lt_of_lt_of_le hi (List.length_take_le' _ _)
    have hik : i < k := Nat.lt_of_lt_of_le hi (List.length_take_le _ _)
    rw [h3 i hi2]
    congr 2
    rw [List.getD_eq_getElem?_getD, List.getD_eq_getElem?_getD, List.getElem?_take, if_pos hik]

theorem int_drop {l : List Int} {k : Nat} (h : k < l.length) : l.drop k = l.getD k 0 :: l.drop (k + 1) := by
  rw [List.drop_eq_getElem_cons h, List.getD_eq_getElem?_getD, List.getElem?_eq_getElem h]; rfl

theorem int_take {l : List Int} {k : Nat} (h : k < l.length) : l.take (k + 1) = l.take k ++ [l.getD k 0] := by
  rw [List.take_add_one, List.getElem?_eq_getElem h, List.getD_eq_getElem?_getD, List.getElem?_eq_getElem h]; rfl

set_option maxHeartbeats 800000 in
/-- In of the reference of chapter 7. -/
theorem bIn_any (p : Option Addr) (ca : Nat) (xs : List Int) (x : Int) (w : World) (hx : IntV w p xs) :
    Calls Tryz.prog 45 #[.slice p xs.length ca, .int .i64 x] w fun e w' => e = .returned (.bool (decide (x ∈ xs))) ∧ w = w' := by
  have hm := hx.1
  generalize hr : decide (x ∈ xs) = res
  have hr2 : res = decide (x ∈ xs.drop 0) := by rw [← hr]; rfl
  have HR := Lib.hid hr2
  clear hr hr2
  go_enter Tryz.func45, Tryz.ntmps45
  go_wp2
  go_loop [5] (fun ii => ∃ (k : Nat), k ≤ xs.length ∧ ii = .int .i64 k ∧ Hid (res = decide (x ∈ xs.drop k))) (fun ii => xs.length - (intOf ii).toNat)
  case atStart => exact ⟨0, Nat.zero_le _, rfl, HR⟩
  case round =>
    obtain ⟨k, hk, rfl, hrel⟩ := hrel
    by_cases h0 : k < xs.length
    · obtain ⟨g, o, rfl, hg, hc⟩ := hx.at (i := k) h0
      have hd := int_drop h0
      generalize xs.getD k 0 = y at *
      have hs : res = decide (x = y ∨ x ∈ xs.drop (k + 1)) := by rw [hrel.out, hd]; simp
      have HS := Lib.hid hs
      clear hs hx hd
      by_cases ha : y = x
      · have ha' : (y == x) = true := by simp [ha]
        have hz : res = true := by rw [HS.out, decide_eq_true_iff]; exact .inl ha.symm
        have HZ := Lib.hid hz
        clear ha hz
        go_wp2
        go_ret
        exact ⟨bret HZ.out.symm, rfl⟩
      · have ha' : (y == x) = false := by simp [ha]
        have hz : res = decide (x ∈ xs.drop (k + 1)) := by
          rw [HS.out]
          have : ¬ x = y := fun h => ha h.symm
          simp [this]
        have HZ := Lib.hid hz
        clear ha hz
        go_wp2
        go_round
        case rel => exact ⟨k + 1, by omega, by go_num, HZ⟩
        case measure => simp [intOf]; omega
    · obtain rfl : k = xs.length := by omega
      have hz : res = false := by rw [hrel.out, List.drop_length]; simp
      have HZ := Lib.hid hz
      clear hz hx
      go_wp2
      go_ret
      exact ⟨bret HZ.out.symm, rfl⟩

/-- The first place of a number in a list, counted from i. -/
def posFrom (x : Int) : List Int → Nat → Int
  | [], _ => -1
  | y :: r, i => if y = x then (i : Int) else posFrom x r (i + 1)
def posOf (x : Int) (l : List Int) : Int := posFrom x l 0

theorem posFrom_le (x : Int) : ∀ (l : List Int) (i : Nat), -1 ≤ posFrom x l i ∧ posFrom x l i < i + l.length
  | [], i => by unfold posFrom; simp; omega
  | y :: r, i => by
    have ih := posFrom_le x r (i + 1)
    unfold posFrom
    split
    · simp; omega
    · simp only [List.length_cons]; omega

set_option maxHeartbeats 800000 in
/-- position of the reference of chapter 7. -/
theorem bPosition_any (p : Option Addr) (ca : Nat) (xs : List Int) (x : Int) (w : World) (hx : IntV w p xs) :
    Calls Tryz.prog 46 #[.slice p xs.length ca, .int .i64 x] w fun e w' => e = .returned (.int .i64 (posOf x xs)) ∧ w = w' := by
  have hm := hx.1
  generalize hr : posOf x xs = res
  have hr2 : res = posFrom x (xs.drop 0) 0 := by rw [← hr]; rfl
  have HR := Lib.hid hr2
  clear hr hr2
  go_enter Tryz.func46, Tryz.ntmps46
  go_wp2
  go_loop [5] (fun ii => ∃ (k : Nat), k ≤ xs.length ∧ ii = .int .i64 k ∧ Hid (res = posFrom x (xs.drop k) k)) (fun ii => xs.length - (intOf ii).toNat)
  case atStart => exact ⟨0, Nat.zero_le _, rfl, HR⟩
  case round =>
    obtain ⟨k, hk, rfl, hrel⟩ := hrel
    by_cases h0 : k < xs.length
    · obtain ⟨g, o, rfl, hg, hc⟩ := hx.at (i := k) h0
      have hd := int_drop h0
      generalize xs.getD k 0 = y at *
      have hs : res = if y = x then (k : Int) else posFrom x (xs.drop (k + 1)) (k + 1) := by rw [hrel.out, hd]; rfl
      have HS := Lib.hid hs
      clear hs hx hd
      by_cases ha : y = x
      · have ha' : (y == x) = true := by simp [ha]
        have hz : res = k := by rw [HS.out, if_pos ha]
        have HZ := Lib.hid hz
        clear ha hz
        go_wp2
        go_ret
        exact ⟨iret HZ.out.symm, rfl⟩
      · have ha' : (y == x) = false := by simp [ha]
        have hz : res = posFrom x (xs.drop (k + 1)) (k + 1) := by rw [HS.out, if_neg ha]
        have HZ := Lib.hid hz
        clear ha hz
        go_wp2
        go_round
        case rel => exact ⟨k + 1, by omega, by go_num, HZ⟩
        case measure => simp [intOf]; omega
    · obtain rfl : k = xs.length := by omega
      have hz : res = -1 := by rw [hrel.out, List.drop_length]; rfl
      have HZ := Lib.hid hz
      clear hz hx
      go_wp2
      go_ret
      exact ⟨iret HZ.out.symm, rfl⟩

end Go.Proofs.YtggcnnpklkmeoaaGreatDoor
end

section
namespace Go.Proofs.YtggcnnpklkmeoaaGreatDoor
open Go.RowKit Go

theorem intInfo : (Tryz.prog.info? 3).map (fun i => (i.zero, i.size, i.bytes)) = some (some (.int .i64 0), 1, 8) := by kernel_rfl

/-- A row that is owned reads as these integers. -/
theorem IntV.of_owns {w : World} {base n : Nat} {e : TypeId} {v : Value} {l : List Int} (h : w.ownsRow base e 1 v n (l.map (Value.int .i64))) (hl : l.length ≤ 1099511627776) :
    ∃ p c, v = .slice p l.length c ∧ IntV w p l ∧ l.length ≤ c := by
  obtain ⟨h1, h2⟩ := h
  rw [List.length_map, Nat.mul_one] at h1
  subst h1
  rcases h2 with ⟨rfl, h3⟩ | ⟨g, cap, cur, rfl, hb, hg, h3, h4, h5, h6⟩
  · rw [h3]
    exact ⟨none, 0, rfl, ⟨hl, .inl (List.length_eq_zero_iff.1 h3)⟩, Nat.le_refl _⟩
  · refine ⟨_, cap, rfl, ⟨hl, ?_⟩, h3⟩
    by_cases he : l = []
    · exact .inl he
    · right
      have hlt : g < w.heap.size := by
        by_cases hlt : g < w.heap.size
        · exact hlt
        · rw [Array.getElem?_eq_none (by omega)] at hg; cases hg
      refine ⟨g, 0, rfl, hlt, fun i hi => ?_⟩
      rw [Nat.mul_one] at h6
      have : cur[i]? = some (.int .i64 (l.getD i 0)) := by
        have h7 : (cur.toList.take l.length)[i]? = some (.int .i64 (l.getD i 0)) := by
          rw [h6, List.getElem?_map, List.getElem?_eq_getElem hi, List.getD_eq_getElem?_getD, List.getElem?_eq_getElem hi]; rfl
        rw [List.getElem?_take, if_pos hi] at h7
        simpa using h7
      rw [Nat.zero_add]
      unfold World.cell?
      simp only [hg]
      exact this

/-- A value that reads as a slice of these integers. -/
def IntsAt (w : World) (v : Value) (l : List Int) : Prop := ∃ p c, v = .slice p l.length c ∧ IntV w p l ∧ l.length ≤ c

theorem IntsAt.below {w w' : World} {v : Value} {l : List Int} (h : IntsAt w v l) (hb : Below w.heap.size w w') : IntsAt w' v l := by
  obtain ⟨p, c, h1, h2, h3⟩ := h
  exact ⟨p, c, h1, h2.below hb, h3⟩

theorem IntsAt.nil (w : World) : IntsAt w (.slice none 0 0) [] := ⟨none, 0, rfl, ⟨by simp, .inl rfl⟩, Nat.le_refl _⟩
end Go.Proofs.YtggcnnpklkmeoaaGreatDoor
end

section
namespace Go.Proofs.YtggcnnpklkmeoaaGreatDoor
open Go.RowKit Go

/-! Rows of integers of the call's own, written cell by cell. -/

theorem add_none (g off i : Nat) : (⟨g, off, none⟩ : Addr).add i = ⟨g, off + i, none⟩ := by simp [Addr.add]

def ICells (xs : List Int) : List Value := xs.map fun (x : Int) => Value.int .i64 x

def OwnI (w : World) (base g n : Nat) (xs : List Int) : Prop := w.ownsRow base 3 1 (.slice (some ⟨g, 0, none⟩) n n) n (ICells xs)

theorem OwnI.len {w : World} {base g n : Nat} {xs : List Int} (h : OwnI w base g n xs) : xs.length = n := by
  have := h.1; simpa [ICells] using this

theorem OwnI.at {w : World} {base g n : Nat} {xs : List Int} (h : OwnI w base g n xs) (i : Nat) (hi : i < xs.length) : w.cell? ⟨g, i, none⟩ = some (.int .i64 (xs.getD i 0)) := by
  have h2 := World.ownsRow.cells h (g := g) rfl i (.int .i64 (xs.getD i 0)) (by simp [ICells, hi, List.getD_eq_getElem?_getD])
  have hadd : (⟨g, 0, none⟩ : Addr).add i = ⟨g, 0 + i, none⟩ := by unfold Addr.add; split <;> simp_all
  rw [hadd, Nat.zero_add] at h2
  exact h2

theorem OwnI.free {w : World} {base g n : Nat} {xs : List Int} (h : OwnI w base g n xs) (i : Nat) : w.frozen? ⟨g, i, none⟩ = false := World.ownsRow.frozenAt h i

theorem OwnI.store {w : World} {base g n : Nat} {xs : List Int} (h : OwnI w base g n xs) (i : Nat) (x : Int) :
    OwnI (w.setCell ⟨g, i, none⟩ (.int .i64 x)) base g n (xs.set i x) := by
  have := (World.ownsRow.stored h i (.int .i64 x)).1
  unfold OwnI
  rw [show ICells (xs.set i x) = (ICells xs).set i (.int .i64 x) by simp [ICells, List.map_set]]
  exact this

theorem OwnI.kept {w w' : World} {base g n : Nat} {xs : List Int} (h : OwnI w base g n xs) (hb : Below w.heap.size w w') : OwnI w' base g n xs := by
  have h0 : Below w.heap.size w w' := hb
  refine World.ownsRow.kept (row := none) h ⟨h0.os, h0.tape, h0.output, h0.size, fun k hk _ => h0.block k hk⟩ (Or.inr ?_)
  simp [Value.ownBlock]

theorem OwnI.drewN {w : World} {base g n : Nat} {xs : List Int} (h : OwnI w base g n xs) (m : Nat) : OwnI (w.drewN m) base g n xs := h

theorem OwnI.lt {w : World} {base g n : Nat} {xs : List Int} (h : OwnI w base g n xs) : base ≤ g ∧ g < w.heap.size := World.ownsRow.lt h g rfl

theorem OwnI.intV {w : World} {base g n : Nat} {xs : List Int} (h : OwnI w base g n xs) (hn : n ≤ 1099511627776) : IntV w (some ⟨g, 0, none⟩) xs :=
  ⟨by rw [h.len]; exact hn, .inr ⟨g, 0, rfl, h.lt.2, fun i hi => by rw [Nat.zero_add]; exact h.at i hi⟩⟩

theorem ownI_made {w : World} {base g n : Nat} (h : w.ownsRow base 3 1 (.slice (some ⟨g, 0, none⟩) n n) n (madeCells #[Value.int .i64 0] n).toList) : OwnI w base g n (List.replicate n 0) := by
  rw [toList_madeCells_one] at h
  unfold OwnI
  rw [show ICells (List.replicate n 0) = List.replicate n (Value.int .i64 0) by simp [ICells]]
  exact h

/-- The same with room behind it. -/
def OwnC (w : World) (base g n cap : Nat) (xs : List Int) : Prop := w.ownsRow base 3 1 (.slice (some ⟨g, 0, none⟩) n cap) n (ICells xs)

theorem OwnC.len {w : World} {base g n cap : Nat} {xs : List Int} (h : OwnC w base g n cap xs) : xs.length = n := by
  have := h.1; simpa [ICells] using this

theorem OwnC.at {w : World} {base g n cap : Nat} {xs : List Int} (h : OwnC w base g n cap xs) (i : Nat) (hi : i < xs.length) : w.cell? ⟨g, i, none⟩ = some (.int .i64 (xs.getD i 0)) := by
  have h2 := World.ownsRow.cells h (g := g) rfl i (.int .i64 (xs.getD i 0)) (by simp [ICells, hi, List.getD_eq_getElem?_getD])
  have hadd : (⟨g, 0, none⟩ : Addr).add i = ⟨g, 0 + i, none⟩ := by unfold Addr.add; split <;> simp_all
  rw [hadd, Nat.zero_add] at h2
  exact h2

theorem OwnC.free {w : World} {base g n cap : Nat} {xs : List Int} (h : OwnC w base g n cap xs) (i : Nat) : w.frozen? ⟨g, i, none⟩ = false := World.ownsRow.frozenAt h i

theorem OwnC.store {w : World} {base g n cap : Nat} {xs : List Int} (h : OwnC w base g n cap xs) (i : Nat) (x : Int) :
    OwnC (w.setCell ⟨g, i, none⟩ (.int .i64 x)) base g n cap (xs.set i x) := by
  have := (World.ownsRow.stored h i (.int .i64 x)).1
  unfold OwnC
  rw [show ICells (xs.set i x) = (ICells xs).set i (.int .i64 x) by simp [ICells, List.map_set]]
  exact this

theorem OwnC.kept {w w' : World} {base g n cap : Nat} {xs : List Int} (h : OwnC w base g n cap xs) (hb : Below w.heap.size w w') : OwnC w' base g n cap xs := by
  have h0 : Below w.heap.size w w' := hb
  refine World.ownsRow.kept (row := none) h ⟨h0.os, h0.tape, h0.output, h0.size, fun k hk _ => h0.block k hk⟩ (Or.inr ?_)
  simp [Value.ownBlock]

/-- A store into another block leaves it. -/
theorem OwnC.other {w : World} {base g n cap : Nat} {xs : List Int} (h : OwnC w base g n cap xs) {g2 : Nat} (hne : g2 ≠ g) (i : Nat) (v : Value) : OwnC (w.setCell ⟨g2, i, none⟩ v) base g n cap xs := by
  refine World.ownsRow.kept (row := some g2) h ⟨rfl, rfl, rfl, by simp [World.setCell], fun k hk hk2 => Below.heap_setCell _ _ _ _ (by intro e; exact hk2 (by rw [e]))⟩ (Or.inr ?_)
  simp only [Value.ownBlock]
  intro e
  exact hne (by injection e with e; exact e.symm)

theorem OwnC.drewN {w : World} {base g n cap : Nat} {xs : List Int} (h : OwnC w base g n cap xs) (m : Nat) : OwnC (w.drewN m) base g n cap xs := h

theorem OwnC.lt {w : World} {base g n cap : Nat} {xs : List Int} (h : OwnC w base g n cap xs) : base ≤ g ∧ g < w.heap.size := World.ownsRow.lt h g rfl

theorem OwnC.intV {w : World} {base g n cap : Nat} {xs : List Int} (h : OwnC w base g n cap xs) (hn : n ≤ 1099511627776) : IntV w (some ⟨g, 0, none⟩) xs :=
  ⟨by rw [h.len]; exact hn, .inr ⟨g, 0, rfl, h.lt.2, fun i hi => by rw [Nat.zero_add]; exact h.at i hi⟩⟩

theorem OwnI.toC {w : World} {base g n : Nat} {xs : List Int} (h : OwnI w base g n xs) : OwnC w base g n n xs := h

/-- A row that is owned, by its block. -/
theorem OwnC.of {w : World} {base n : Nat} {v : Value} {l : List Int} (h : w.ownsRow base 3 1 v n (ICells l)) (hl : 0 < l.length) : ∃ g cap, v = .slice (some ⟨g, 0, none⟩) n cap ∧ OwnC w base g n cap l ∧ n ≤ cap := by
  have h0 := h
  obtain ⟨h1, h2⟩ := h
  rcases h2 with ⟨rfl, h3⟩ | ⟨g, cap, cur, rfl, hb, hg, h3, h4, h5, h6⟩
  · simp [ICells] at h1; omega
  · exact ⟨g, cap, rfl, h0, h3⟩
end Go.Proofs.YtggcnnpklkmeoaaGreatDoor
end

section
namespace Go.Proofs.YtggcnnpklkmeoaaGreatDoor
open Go.RowKit Go

/-- append of integers to a row of the call's own: as a law for the walk. -/
theorem wpList_append_ints {w : World} {ops : Array Oper} {rest : List Oper} {o : Oper} {a : Act} {Q : Exit → Act → World → Prop} (hgd : o.guard = none) (s x : Operand)
    (ho : o.op = .call { callee := .builtin .append, args := #[s, x], argTypes := #[23, 23] })
    (base : Nat) (v : Value) (n : Nat) (xs ys : List Int) (hs : a.eval s = v) (hown : w.ownsRow base 3 1 v n (xs.map (Value.int .i64)))
    (r : Option Addr) (m c : Nat) (hx : a.eval x = .slice r m c) (hm : m = ys.length) (hy : IntV w r ys) (hnil : r = none → c = 0)
    (h40 : n + m ≤ 1099511627776) (hbase : base ≤ w.heap.size)
    (h : ∀ v' w', w'.ownsRow base 3 1 v' (n + m) ((xs ++ ys).map (Value.int .i64)) → w.grownBy w' v.ownBlock → wpList Tryz.prog ops Q rest (a.put o.dst v') w') : wpList Tryz.prog ops Q (o :: rest) a w := by
  obtain ⟨i0, hInfo, hz0, hz1, hz2⟩ := info_parts intInfo
  subst hm
  cases r with
  | none =>
    have hy0 : ys = [] := by
      rcases hy.2 with h | ⟨g, o, h, _⟩
      · exact h
      · cases h
    subst hy0
    have hc := hnil rfl
    subst hc
    refine wpList_append_own_none hgd s x 23 ho base 3 i0 1 Tryz.underlying23 hInfo v n _ hs hown hx ?_
    refine h v w ?_ ⟨rfl, rfl, rfl, Nat.le_refl _, fun _ _ _ => rfl⟩
    simpa using hown
  | some ad =>
    refine wpList_append_own w hgd s x 23 ho base 3 i0 (.int .i64 0) 1 8 Tryz.underlying23 hInfo hz0 hz1 hz2 rfl (by decide) v n _ hs hown ad ys.length c (ys.map (Value.int .i64)) hx (by simp) ?_ ?_ (by unfold maxLen; omega) (by omega) hbase ?_
    · intro j u hj
      rw [List.getElem?_map] at hj
      have hjl : j < ys.length := by
        by_cases hj2 : j < ys.length
        · exact hj2
        · rw [List.getElem?_eq_none (by omega)] at hj; cases hj
      obtain ⟨g, off, e, _, hc⟩ := hy.at hjl
      obtain rfl : ad = ⟨g, off, none⟩ := Option.some.inj e
      rw [List.getElem?_eq_getElem hjl] at hj
      simp only [Option.map_some, Option.some.injEq] at hj
      rw [show (⟨g, off, none⟩ : Addr).add j = ⟨g, off + j, none⟩ by simp [Addr.add], hc, List.getD_eq_getElem?_getD, List.getElem?_eq_getElem hjl, ← hj, Option.getD_some]
    · intro u hu
      rw [List.mem_map] at hu
      obtain ⟨z, _, rfl⟩ := hu
      rfl
    · intro v' w' h1 h2 _
      refine h v' w' ?_ h2
      rw [List.map_append]; exact h1

/-- The same as one step of a region that draws. -/
theorem step_append_ints {w : World} {ops : Array Oper} {o : Oper} {a : Act} {K : Act → World → Prop} {Q : Exit → Act → World → Prop} {E : Prop} (hgd : o.guard = none) (s x : Operand)
    (ho : o.op = .call { callee := .builtin .append, args := #[s, x], argTypes := #[23, 23] })
    (base : Nat) (v : Value) (n : Nat) (xs ys : List Int) (hs : a.eval s = v) (hown : w.ownsRow base 3 1 v n (xs.map (Value.int .i64)))
    (ad : Addr) (m c : Nat) (hx : a.eval x = .slice (some ad) m c) (hm : m = ys.length) (hy : IntV w (some ad) ys)
    (h40 : n + m ≤ 1099511627776) (hbase : base ≤ w.heap.size)
    (h : ∀ v' w', w'.ownsRow base 3 1 v' (n + m) ((xs ++ ys).map (Value.int .i64)) → w.grownBy w' v.ownBlock → K (a.put o.dst v') w') :
    if Region.wanted o (yielded ops a.tmps) = true then Oper.wp Tryz.prog o a w K Q else E := by
  have hw : Region.wanted o (yielded ops a.tmps) = true := by simp [Region.wanted, hgd]
  rw [if_pos hw]
  obtain ⟨i0, hInfo, hz0, hz1, hz2⟩ := info_parts intInfo
  subst hm
  refine wp_append_own w s x 23 ho base 3 i0 (.int .i64 0) 1 8 Tryz.underlying23 hInfo hz0 hz1 hz2 rfl (by decide) v n _ hs hown ad ys.length c (ys.map (Value.int .i64)) hx (by simp) ?_ ?_ (by unfold maxLen; omega) (by omega) hbase ?_
  · intro j u hj
    rw [List.getElem?_map] at hj
    have hjl : j < ys.length := by
      by_cases hj2 : j < ys.length
      · exact hj2
      · rw [List.getElem?_eq_none (by omega)] at hj; cases hj
    obtain ⟨g, off, e, _, hc⟩ := hy.at hjl
    obtain rfl : ad = ⟨g, off, none⟩ := Option.some.inj e
    rw [List.getElem?_eq_getElem hjl] at hj
    simp only [Option.map_some, Option.some.injEq] at hj
    rw [show (⟨g, off, none⟩ : Addr).add j = ⟨g, off + j, none⟩ by simp [Addr.add], hc, List.getD_eq_getElem?_getD, List.getElem?_eq_getElem hjl, ← hj, Option.getD_some]
  · intro u hu
    rw [List.mem_map] at hu
    obtain ⟨z, _, rfl⟩ := hu
    rfl
  · intro v' w' h1 h2 _
    refine h v' w' ?_ h2
    rw [List.map_append]; exact h1

theorem intV_one (w : World) (x : Int) : IntV (w.alloc (.cells #[.int .i64 x] 3)) (some ⟨w.heap.size, 0, none⟩) [x] := by
  refine ⟨by simp, .inr ⟨w.heap.size, 0, rfl, by simp, ?_⟩⟩
  intro i hi
  have : i = 0 := by simp at hi; omega
  subst this
  exact (BoxAt.made w 3 [.int .i64 x]).cell 0

theorem IntV.alloc {w : World} {p : Option Addr} {xs : List Int} (h : IntV w p xs) (o : Obj) : IntV (w.alloc o) p xs := h.below ((Below.refl _ _).alloc (Nat.le_refl _) _)

/-- A store into a box of two slices leaves rows of integers. -/
theorem IntV.setSlices {w : World} {p : Option Addr} {l : List Int} (h : IntV w p l) {b : Nat} {p1 p2 : Option Addr} {n1 c1 n2 c2 : Nat} {e : TypeId} (hb : BoxAt w b e [.slice p1 n1 c1, .slice p2 n2 c2]) (i : Nat) (v : Value) : IntV (w.setCell ⟨b, i, none⟩ v) p l := by
  refine ⟨h.1, ?_⟩
  rcases h.2 with h0 | ⟨g, off, h1, h2, h3⟩
  · exact .inl h0
  · by_cases hl : l = []
    · exact .inl hl
    · right
      have hg : g ≠ b := by
        intro hbg
        subst hbg
        have h4 := h3 0 (List.length_pos_iff.2 hl)
        rw [hb.cell] at h4
        match off, h4 with
        | 0, h4 => simp at h4
        | 1, h4 => simp at h4
        | k + 2, h4 => simp at h4
      refine ⟨g, off, h1, by simpa [World.setCell] using h2, fun k hk => ?_⟩
      have h5 := Below.heap_setCell w ⟨b, i, none⟩ v g hg
      have h6 := h3 k hk
      unfold World.cell? at h6 ⊢
      rw [h5]
      exact h6

/-- What is stored into the box of a result with two slices. -/
theorem two_fill {w1 : World} {b : Nat} {ty : TypeId} {p1 p2 : Option Addr} {n1 c1 n2 c2 : Nat} {l1 l2 : List Int} {m1 d1 m2 d2 : Nat} {q1 q2 : Option Addr} (hb : BoxAt w1 b ty [.slice q1 m1 d1, .slice q2 m2 d2]) (h1 : IntV w1 p1 l1) (h2 : IntV w1 p2 l2) :
    IntV ((w1.setCell ⟨b, 0, none⟩ (.slice p1 n1 c1)).setCell ⟨b, 1, none⟩ (.slice p2 n2 c2)) p1 l1 ∧ IntV ((w1.setCell ⟨b, 0, none⟩ (.slice p1 n1 c1)).setCell ⟨b, 1, none⟩ (.slice p2 n2 c2)) p2 l2 ∧
      ((w1.setCell ⟨b, 0, none⟩ (.slice p1 n1 c1)).setCell ⟨b, 1, none⟩ (.slice p2 n2 c2)).cell? ⟨b, 0, none⟩ = some (.slice p1 n1 c1) ∧ ((w1.setCell ⟨b, 0, none⟩ (.slice p1 n1 c1)).setCell ⟨b, 1, none⟩ (.slice p2 n2 c2)).cell? ⟨b, 1, none⟩ = some (.slice p2 n2 c2) := by
  have hb1 : BoxAt (w1.setCell ⟨b, 0, none⟩ (.slice p1 n1 c1)) b ty [.slice p1 n1 c1, .slice q2 m2 d2] := hb.store 0 _
  have hb2 : BoxAt ((w1.setCell ⟨b, 0, none⟩ (.slice p1 n1 c1)).setCell ⟨b, 1, none⟩ (.slice p2 n2 c2)) b ty [.slice p1 n1 c1, .slice p2 n2 c2] := hb1.store 1 _
  exact ⟨(h1.setSlices hb 0 _).setSlices hb1 1 _, (h2.setSlices hb 0 _).setSlices hb1 1 _, hb2.cell 0, hb2.cell 1⟩

theorem own_slice {w : World} {base n size : Nat} {e : TypeId} {v : Value} {xs : List Value} (h : w.ownsRow base e size v n xs) : ∃ p c, v = .slice p n c ∧ n ≤ c := by
  rcases h.2 with ⟨h2, h3⟩ | ⟨g, cap, cur, h2, _, _, h3, _⟩
  · exact ⟨none, 0, by rw [h2, h3], by omega⟩
  · exact ⟨_, cap, h2, h3⟩

/-- A row that is owned is never a nil slice with room. -/
theorem own_nil {w : World} {base n size : Nat} {e : TypeId} {p : Option Addr} {m c : Nat} {xs : List Value} (h : w.ownsRow base e size (.slice p m c) n xs) : p = none → c = 0 := by
  intro hp
  rcases h.2 with ⟨h2, _⟩ | ⟨g, cap, cur, h2, _⟩
  · injection h2 with _ _ h3
  · injection h2 with h3 _ _
    rw [hp] at h3; cases h3
end Go.Proofs.YtggcnnpklkmeoaaGreatDoor
end

