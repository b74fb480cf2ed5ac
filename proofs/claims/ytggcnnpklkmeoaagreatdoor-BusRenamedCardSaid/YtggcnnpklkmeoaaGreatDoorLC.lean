import Derived.Test.YtggcnnpklkmeoaaGreatDoorLB
import Derived.Test.YtggcnnpklkmeoaaGreatDoorUC
namespace Go.Proofs.YtggcnnpklkmeoaaGreatDoor
open Go.RowKit Go

set_option maxRecDepth 100000 in
set_option maxHeartbeats 800000 in
/-- ints, of an error. -/
theorem lInts_bad (x : Int) (w : World) (h : x ≠ 0) :
    Calls Tryz.prog 21 #[.slice none 0 0, .int .i64 x, .int .i64 x, .slice none 0 0] w fun r w' => r = .returned (.bool true) ∧ Below w.heap.size w w' := by
  have hd : (x != 0) = true := by simpa using h
  clear h
  go_enter Tryz.func21, Tryz.ntmps21
  go_wp2
  go_ret
  exact ⟨rfl, Below.refl _ _⟩

set_option maxRecDepth 100000 in
set_option maxHeartbeats 800000 in
/-- ints, of the same integers. -/
theorem lInts_same (l : List Int) (p q : Option Addr) (c d : Nat) (w : World) (hp : IntV w p l) (hq : IntV w q l) :
    Calls Tryz.prog 21 #[.slice p l.length c, .int .i64 0, .int .i64 0, .slice q l.length d] w fun r w' => r = .returned (.bool true) ∧ Below w.heap.size w w' := by
  have K := iSame_any p q c d l l w hp hq
  rw [decide_eq_true rfl] at K
  have HK := Lib.hid K
  clear K hp hq
  go_enter Tryz.func21, Tryz.ntmps21
  go_wp2_with (go_at_call 36; (with_reducible refine HK.out.mono ?_); rintro e w1 ⟨rfl, hb⟩)
  go_ret
  exact ⟨rfl, hb⟩

/-- A list that is read as a slice: the call, with any slice. -/
theorem lInts_at {l : List Int} {u v : Value} {w : World} (hu : IntsAt w u l) (hv : IntsAt w v l) :
    Calls Tryz.prog 21 #[u, .int .i64 0, .int .i64 0, v] w fun r w' => r = .returned (.bool true) ∧ Below w.heap.size w w' := by
  obtain ⟨p, c, rfl, h1, _⟩ := hu
  obtain ⟨q, d, rfl, h2, _⟩ := hv
  exact lInts_same l p q c d w h1 h2

set_option maxRecDepth 100000 in
set_option maxHeartbeats 3200000 in
/-- BusTracks. -/
theorem lTracks_any (p q : Option Addr) (ca cb : Nat) (xs : List (Int × List Int)) (ord : List Int) (cols : Int) (w : World) (hs : NetsS w p xs) (hv : xs.length ≤ 70 → (∀ x ∈ xs, x.2.length ≤ 12) → NetsV w p xs)
    (ho : ord.length ≤ 100 → IntV w q ord) (hcap : ord.length ≤ cb) (hml : ord.length ≤ maxLen) :
    Calls Tryz.prog 4 #[.slice p xs.length ca, .int .i64 cols, .slice q ord.length cb] w fun e w' => e = .returned (.bool true) ∧ Below w.heap.size w w' := by
  have KA := Lib.hid (awake_from (w := w))
  have KL := Lib.hid (fun W (h : Below w.heap.size w W) => below_ret h (lLight_any p ca xs cols W (hs.below h) (fun a b => (hv a b).below h)))
  have hb : Below w.heap.size w w := Below.refl _ _
  unfold maxLen at hml
  cases hli : lightOf cols xs with
  | false =>
    rw [hli] at KL
    clear hs hv ho hli
    go_enter Tryz.func4, Tryz.ntmps4
    go_wp2_with (first 
    | (go_at_call 9; (with_reducible refine (KA.out _ ?hb).mono ?_); (case hb => repeat' (first | assumption | exact Below.size (B := w.heap.size) (by assumption) | refine Below.drew ?_ | refine Below.alloc ?_ ?_ _ | refine Below.setCell ?_ ?_ _ | refine below_drewN ?_ _)); rintro e wz ⟨rfl, hb⟩)
    | (go_at_call 10; (with_reducible refine (KL.out _ ?hb).mono ?_); (case hb => repeat' (first | assumption | exact Below.size (B := w.heap.size) (by assumption) | refine Below.drew ?_ | refine Below.alloc ?_ ?_ _ | refine Below.setCell ?_ ?_ _ | refine below_drewN ?_ _)); rintro e wz ⟨rfl, hb⟩))
    go_ret
    exact ⟨rfl, by assumption⟩
  | true =>
    obtain ⟨l1, l2, l3⟩ := light_ok hli
    rw [hli] at KL
    by_cases hol : ord.length ≤ 100
    · have hx := hv l1 l2
      have ho := ho hol
      have RN := Lib.hid (fun W (h : Below w.heap.size w W) => bCheckNets_any p ca xs cols W (hx.below h))
      have RO := Lib.hid (fun W (h : Below w.heap.size w W) => bCheckOrder_any q cb ord cols W (ho.below h) hcap)
      have RT0 := Lib.hid (fun W (h : Below w.heap.size w W) => uTracks_any p q ca cb xs ord cols W (hx.below h) (ho.below h))
      have RC0 := Lib.hid (fun W (h : Below w.heap.size w W) => uClique_any p q ca cb xs ord cols W (hx.below h) (ho.below h))
      have RBT := Lib.hid (fun W (h : Below w.heap.size w W) => bTracks_any p q ca cb xs ord W (hx.below h) (ho.below h) (by omega) (by omega))
      have RBC := Lib.hid (fun W (h : Below w.heap.size w W) => bClique_any p q ca cb xs ord W (hx.below h) (ho.below h))
      have hol' : ¬ (100 : Int) < ord.length := by omega
      have hre : rowErr cols xs ord = if netsOf cols xs = 0 then orderOf cols ord else netsOf cols xs := rfl
      generalize rowErr cols xs ord = res at *
      clear hs hv ho hx hli l2 l3 hcap hml
      by_cases c : res = 0
      · have h12 : netsOf cols xs = 0 ∧ orderOf cols ord = 0 := by
          rw [c] at hre
          by_cases h : netsOf cols xs = 0
          · rw [if_pos h] at hre; exact ⟨h, hre.symm⟩
          · rw [if_neg h] at hre; exact absurd hre.symm h
        rw [h12.1] at RN
        rw [h12.2] at RO
        subst c
        have RT := Lib.hid (fun W (h : Below w.heap.size w W) => (RT0.out W h).mono fun e w' k => (show ∃ u, e = .returned (.tuple #[u, .int .i64 (dcnt (tracksOf xs ord) xs.length : Nat), .int .i64 0]) ∧ IntsAt w' u (tracksOf xs ord) ∧ Below W.heap.size W w' by
          obtain ⟨u, n, k1, _, k3, k4⟩ := k
          obtain ⟨k5, rfl⟩ := k3 rfl
          exact ⟨u, k1, k5, k4⟩))
        have RC := Lib.hid (fun W (h : Below w.heap.size w W) => (RC0.out W h).mono fun e w' k => (show ∃ u, e = .returned (.tuple #[u, .int .i64 (bestTo xs ord ord.length).2, .int .i64 0]) ∧ IntsAt w' u (bestTo xs ord ord.length).1 ∧ Below W.heap.size W w' by
          obtain ⟨u, n, k1, _, k3, k4⟩ := k
          obtain ⟨k5, rfl⟩ := k3 rfl
          exact ⟨u, k1, k5, k4⟩))
        clear hre h12 RT0 RC0
        generalize dcnt (tracksOf xs ord) xs.length = D at *
        generalize tracksOf xs ord = T at *
        generalize bestTo xs ord ord.length = bt at *
        obtain ⟨C, P⟩ := bt
        simp only at RC RBC
        go_enter Tryz.func4, Tryz.ntmps4
        go_upto_region 3 with (first 
    | (go_at_call 9; (with_reducible refine (KA.out _ ?hb).mono ?_); (case hb => repeat' (first | assumption | exact Below.size (B := w.heap.size) (by assumption) | refine Below.drew ?_ | refine Below.alloc ?_ ?_ _ | refine Below.setCell ?_ ?_ _ | refine below_drewN ?_ _)); rintro e wz ⟨rfl, hb⟩)
    | (go_at_call 10; (with_reducible refine (KL.out _ ?hb).mono ?_); (case hb => repeat' (first | assumption | exact Below.size (B := w.heap.size) (by assumption) | refine Below.drew ?_ | refine Below.alloc ?_ ?_ _ | refine Below.setCell ?_ ?_ _ | refine below_drewN ?_ _)); rintro e wz ⟨rfl, hb⟩))
        go_upto_region 4 with (go_at_call 19; (with_reducible refine (RT.out _ ?hb).mono ?_); (case hb => assumption); rintro e w1 ⟨u1, rfl, hu1, k1⟩)
        have HB1 : Below w.heap.size w w1 := Below.trans (by assumption) (Below.mono k1 (Below.size (B := w.heap.size) (by assumption)))
        go_upto_region 5 with (go_at_call 20; (with_reducible refine (RC.out _ ?hb).mono ?_); (case hb => exact HB1); rintro e w2 ⟨u2, rfl, hu2, k2⟩)
        have HB2 : Below w.heap.size w w2 := HB1.trans (k2.mono HB1.size)
        have HU1 := Lib.hid (hu1.below k2)
        have HU2 := Lib.hid hu2
        have KN := Lib.hid (fun W (h : Below w2.heap.size w2 W) => below_ret h (RN.out W (HB2.trans (h.mono HB2.size))))
        have KO := Lib.hid (fun W (h : Below w2.heap.size w2 W) => below_ret h (RO.out W (HB2.trans (h.mono HB2.size))))
        have hb : Below w2.heap.size w2 w2 := Below.refl _ _
        clear hu1 hu2 k1 k2 RN RO RT RC
        go_upto_region 10 with (first | (go_at_call 14; (with_reducible refine (KN.out _ ?hb).mono ?_); (case hb => assumption); rintro e wz ⟨rfl, hb⟩) | (go_at_call 15; (with_reducible refine (KO.out _ ?hb).mono ?_); (case hb => assumption); rintro e wy ⟨rfl, hb⟩))
        have HBy : Below w.heap.size w wy := HB2.trans (Below.mono (by assumption) HB2.size)
        have HU1y := Lib.hid (HU1.out.below (by assumption))
        have HU2y := Lib.hid (HU2.out.below (by assumption))
        go_upto_region 11 with (go_at_call 22; (with_reducible refine (RBT.out _ ?hb).mono ?_); (case hb => exact HBy); rintro e w3 ⟨u3, rfl, hu3, k3⟩)
        have HB3 : Below w.heap.size w w3 := HBy.trans (k3.mono HBy.size)
        go_upto_region 12 with (go_at_call 23; (with_reducible refine (RBC.out _ ?hb).mono ?_); (case hb => exact HB3); rintro e w4 ⟨u4, rfl, hu4, k4⟩)
        have HB4 : Below w.heap.size w w4 := HB3.trans (k4.mono HB3.size)
        have J1 := Lib.hid ((HU1y.out.below k3).below k4)
        have J2 := Lib.hid ((HU2y.out.below k3).below k4)
        have J3 := Lib.hid (hu3.below k4)
        have J4 := Lib.hid hu4
        have HB4' := Lib.hid HB4
        clear hu3 hu4 k3 k4 HB4 HB3 HBy HB2 HB1
        go_wp2_with (first | (go_at_call 21; (with_reducible refine (lInts_at J1.out J3.out).mono ?_); rintro e w5 ⟨rfl, k5⟩) | (go_at_call 21; (with_reducible refine (lInts_at (J2.out.below k5) (J4.out.below k5)).mono ?_); rintro e w6 ⟨rfl, k6⟩))
        go_ret
        exact ⟨rfl, HB4'.out.trans ((k5.trans (k6.mono k5.size)).mono HB4'.out.size)⟩
      · have KN := Lib.hid (fun W (h : Below w.heap.size w W) => below_ret h (RN.out W h))
        have KO := Lib.hid (fun W (h : Below w.heap.size w W) => below_ret h (RO.out W h))
        have hne : (res != 0) = true := by simpa using c
        have hne2 : (res == 0) = false := by simpa using c
        have KT := Lib.hid (fun W (h : Below w.heap.size w W) => (RT0.out W h).mono fun e w' k => (show e = .returned (.tuple #[.slice none 0 0, .int .i64 0, .int .i64 res]) ∧ Below w.heap.size w w' by
          obtain ⟨u, n, k1, k2, k3, k4⟩ := k
          obtain ⟨rfl, rfl⟩ := k2 c
          exact ⟨k1, h.trans (k4.mono h.size)⟩))
        have KC := Lib.hid (fun W (h : Below w.heap.size w W) => (RC0.out W h).mono fun e w' k => (show e = .returned (.tuple #[.slice none 0 0, .int .i64 0, .int .i64 res]) ∧ Below w.heap.size w w' by
          obtain ⟨u, n, k1, k2, k3, k4⟩ := k
          obtain ⟨rfl, rfl⟩ := k2 c
          exact ⟨k1, h.trans (k4.mono h.size)⟩))
        have KI := Lib.hid (fun W (h : Below w.heap.size w W) => below_ret h (lInts_bad res W c))
        clear RT0 RC0 RBT RBC RN RO
        by_cases h1 : netsOf cols xs = 0
        · rw [if_pos h1] at hre
          rw [h1] at KN
          rw [← hre] at KO
          clear c h1 hre
          go_enter Tryz.func4, Tryz.ntmps4
          go_wp2_with (first 
    | (go_at_call 9; (with_reducible refine (KA.out _ ?hb).mono ?_); (case hb => repeat' (first | assumption | exact Below.size (B := w.heap.size) (by assumption) | refine Below.drew ?_ | refine Below.alloc ?_ ?_ _ | refine Below.setCell ?_ ?_ _ | refine below_drewN ?_ _)); rintro e wz ⟨rfl, hb⟩)
    | (go_at_call 10; (with_reducible refine (KL.out _ ?hb).mono ?_); (case hb => repeat' (first | assumption | exact Below.size (B := w.heap.size) (by assumption) | refine Below.drew ?_ | refine Below.alloc ?_ ?_ _ | refine Below.setCell ?_ ?_ _ | refine below_drewN ?_ _)); rintro e wz ⟨rfl, hb⟩)
    | (go_at_call 19; (with_reducible refine (KT.out _ ?hb).mono ?_); (case hb => repeat' (first | assumption | exact Below.size (B := w.heap.size) (by assumption) | refine Below.drew ?_ | refine Below.alloc ?_ ?_ _ | refine Below.setCell ?_ ?_ _ | refine below_drewN ?_ _)); rintro e wz ⟨rfl, hb⟩)
    | (go_at_call 20; (with_reducible refine (KC.out _ ?hb).mono ?_); (case hb => repeat' (first | assumption | exact Below.size (B := w.heap.size) (by assumption) | refine Below.drew ?_ | refine Below.alloc ?_ ?_ _ | refine Below.setCell ?_ ?_ _ | refine below_drewN ?_ _)); rintro e wz ⟨rfl, hb⟩)
    | (go_at_call 14; (with_reducible refine (KN.out _ ?hb).mono ?_); (case hb => repeat' (first | assumption | exact Below.size (B := w.heap.size) (by assumption) | refine Below.drew ?_ | refine Below.alloc ?_ ?_ _ | refine Below.setCell ?_ ?_ _ | refine below_drewN ?_ _)); rintro e wz ⟨rfl, hb⟩)
    | (go_at_call 15; (with_reducible refine (KO.out _ ?hb).mono ?_); (case hb => repeat' (first | assumption | exact Below.size (B := w.heap.size) (by assumption) | refine Below.drew ?_ | refine Below.alloc ?_ ?_ _ | refine Below.setCell ?_ ?_ _ | refine below_drewN ?_ _)); rintro e wz ⟨rfl, hb⟩)
    | (go_at_call 21; (with_reducible refine (KI.out _ ?hb).mono ?_); (case hb => repeat' (first | assumption | exact Below.size (B := w.heap.size) (by assumption) | refine Below.drew ?_ | refine Below.alloc ?_ ?_ _ | refine Below.setCell ?_ ?_ _ | refine below_drewN ?_ _)); rintro e wz ⟨rfl, hb⟩))
          go_ret
          exact ⟨rfl, by assumption⟩
        · rw [if_neg h1] at hre
          rw [← hre] at KN
          clear c h1 hre
          go_enter Tryz.func4, Tryz.ntmps4
          go_wp2_with (first 
    | (go_at_call 9; (with_reducible refine (KA.out _ ?hb).mono ?_); (case hb => repeat' (first | assumption | exact Below.size (B := w.heap.size) (by assumption) | refine Below.drew ?_ | refine Below.alloc ?_ ?_ _ | refine Below.setCell ?_ ?_ _ | refine below_drewN ?_ _)); rintro e wz ⟨rfl, hb⟩)
    | (go_at_call 10; (with_reducible refine (KL.out _ ?hb).mono ?_); (case hb => repeat' (first | assumption | exact Below.size (B := w.heap.size) (by assumption) | refine Below.drew ?_ | refine Below.alloc ?_ ?_ _ | refine Below.setCell ?_ ?_ _ | refine below_drewN ?_ _)); rintro e wz ⟨rfl, hb⟩)
    | (go_at_call 19; (with_reducible refine (KT.out _ ?hb).mono ?_); (case hb => repeat' (first | assumption | exact Below.size (B := w.heap.size) (by assumption) | refine Below.drew ?_ | refine Below.alloc ?_ ?_ _ | refine Below.setCell ?_ ?_ _ | refine below_drewN ?_ _)); rintro e wz ⟨rfl, hb⟩)
    | (go_at_call 20; (with_reducible refine (KC.out _ ?hb).mono ?_); (case hb => repeat' (first | assumption | exact Below.size (B := w.heap.size) (by assumption) | refine Below.drew ?_ | refine Below.alloc ?_ ?_ _ | refine Below.setCell ?_ ?_ _ | refine below_drewN ?_ _)); rintro e wz ⟨rfl, hb⟩)
    | (go_at_call 14; (with_reducible refine (KN.out _ ?hb).mono ?_); (case hb => repeat' (first | assumption | exact Below.size (B := w.heap.size) (by assumption) | refine Below.drew ?_ | refine Below.alloc ?_ ?_ _ | refine Below.setCell ?_ ?_ _ | refine below_drewN ?_ _)); rintro e wz ⟨rfl, hb⟩)
    | (go_at_call 21; (with_reducible refine (KI.out _ ?hb).mono ?_); (case hb => repeat' (first | assumption | exact Below.size (B := w.heap.size) (by assumption) | refine Below.drew ?_ | refine Below.alloc ?_ ?_ _ | refine Below.setCell ?_ ?_ _ | refine below_drewN ?_ _)); rintro e wz ⟨rfl, hb⟩))
          go_ret
          exact ⟨rfl, by assumption⟩
    · have hol' : (100 : Int) < ord.length := by omega
      clear hs hv ho hli l2 l3 hol
      go_enter Tryz.func4, Tryz.ntmps4
      go_wp2_with (first 
    | (go_at_call 9; (with_reducible refine (KA.out _ ?hb).mono ?_); (case hb => repeat' (first | assumption | exact Below.size (B := w.heap.size) (by assumption) | refine Below.drew ?_ | refine Below.alloc ?_ ?_ _ | refine Below.setCell ?_ ?_ _ | refine below_drewN ?_ _)); rintro e wz ⟨rfl, hb⟩)
    | (go_at_call 10; (with_reducible refine (KL.out _ ?hb).mono ?_); (case hb => repeat' (first | assumption | exact Below.size (B := w.heap.size) (by assumption) | refine Below.drew ?_ | refine Below.alloc ?_ ?_ _ | refine Below.setCell ?_ ?_ _ | refine below_drewN ?_ _)); rintro e wz ⟨rfl, hb⟩))
      go_ret
      exact ⟨rfl, by assumption⟩
end Go.Proofs.YtggcnnpklkmeoaaGreatDoor
