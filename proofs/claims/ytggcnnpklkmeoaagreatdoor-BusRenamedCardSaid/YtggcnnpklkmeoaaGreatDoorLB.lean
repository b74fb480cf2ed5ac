import Derived.Test.YtggcnnpklkmeoaaGreatDoorLA
import Derived.Test.YtggcnnpklkmeoaaGreatDoorTT
namespace Go.Proofs.YtggcnnpklkmeoaaGreatDoor
open Go.RowKit Go

theorem awake_from {w : World} (W : World) (h : Below w.heap.size w W) : Calls Tryz.prog 9 #[] W fun e w' => e = .returned (.bool true) ∧ Below w.heap.size w w' :=
  (awake07_true W).mono fun _ _ k => ⟨k.1, h.trans (k.2.mono h.size)⟩

theorem number_bad {x : Int} (h : x ≠ 0) : numberOf 0 x x 0 = true := by unfold numberOf; rw [if_pos h]; simp
theorem number_ok (x : Int) : numberOf x 0 0 x = true := by unfold numberOf; simp

set_option maxRecDepth 100000 in
set_option maxHeartbeats 3200000 in
/-- BusExtents. -/
theorem lExtents_any (p q : Option Addr) (ca cb : Nat) (xs : List (Int × List Int)) (ord : List Int) (cols : Int) (w : World) (hs : NetsS w p xs) (hv : xs.length ≤ 70 → (∀ x ∈ xs, x.2.length ≤ 12) → NetsV w p xs)
    (ho : ord.length ≤ 100 → IntV w q ord) (hcap : ord.length ≤ cb) (hml : ord.length ≤ maxLen) :
    Calls Tryz.prog 3 #[.slice p xs.length ca, .int .i64 cols, .slice q ord.length cb] w fun e w' => e = .returned (.bool true) ∧ Below w.heap.size w w' := by
  have KA := Lib.hid (awake_from (w := w))
  have KL := Lib.hid (fun W (h : Below w.heap.size w W) => below_ret h (lLight_any p ca xs cols W (hs.below h) (fun a b => (hv a b).below h)))
  have KNum := Lib.hid (fun W (h : Below w.heap.size w W) x e bad want => below_ret h (lNumber_any x e bad want W))
  have KF := Lib.hid (fun W (h : Below w.heap.size w W) g c a (h1 : W.cell? ⟨g, 0, none⟩ = some (.int .i64 a)) => below_ret h (lFirst_one g c a W h1))
  have hb : Below w.heap.size w w := Below.refl _ _
  unfold maxLen at hml
  cases hli : lightOf cols xs with
  | false =>
    rw [hli] at KL
    clear hs hv ho hli KNum KF
    go_enter Tryz.func3, Tryz.ntmps3
    go_wp2_with (first 
    | (go_at_call 9; (with_reducible refine (KA.out _ ?hb).mono ?_); (case hb => repeat' (first | assumption | exact Below.size (B := w.heap.size) (by assumption) | refine Below.drew ?_ | refine Below.alloc ?_ ?_ _ | refine Below.setCell ?_ ?_ _ | refine below_drewN ?_ _)); rintro e wz ⟨rfl, hb⟩)
    | (go_at_call 10; (with_reducible refine (KL.out _ ?hb).mono ?_); (case hb => repeat' (first | assumption | exact Below.size (B := w.heap.size) (by assumption) | refine Below.drew ?_ | refine Below.alloc ?_ ?_ _ | refine Below.setCell ?_ ?_ _ | refine below_drewN ?_ _)); rintro e wz ⟨rfl, hb⟩))
    go_ret
    exact ⟨rfl, by assumption⟩
  | true =>
    obtain ⟨l1, l2, l3⟩ := light_ok hli
    rw [hli] at KL
    by_cases hol : ord.length ≤ 100
    · have hx := hv l1 l2
      have ho := ho hol
      have RN := Lib.hid (fun W (h : Below w.heap.size w W) => bCheckNets_any p ca xs cols W (hx.below h))
      have RO := Lib.hid (fun W (h : Below w.heap.size w W) => bCheckOrder_any q cb ord cols W (ho.below h) hcap)
      have KE0 := Lib.hid (fun W (h : Below w.heap.size w W) => uExtents_any p q ca cb xs ord cols W (hx.below h) (ho.below h))
      have RLe := Lib.hid (fun W (h : Below w.heap.size w W) => uLength_any p q ca cb xs ord cols W (hx.below h) (ho.below h))
      have RX := Lib.hid (fun W (v : Value) (x : Int × List Int) (h : Below w.heap.size w W) (hv : NetV W v x) => bExtent_any v x q cb ord W hv (ho.below h))
      have RBL := Lib.hid (fun W (h : Below w.heap.size w W) => bLength_any p q ca cb xs ord W (hx.below h) (ho.below h) (by omega) (by omega))
      have HX := Lib.hid hx
      have hol' : ¬ (100 : Int) < ord.length := by omega
      have hre : rowErr cols xs ord = if netsOf cols xs = 0 then orderOf cols ord else netsOf cols xs := rfl
      have hrow := Lib.hid (fun h => rowOk_of (cols := cols) (nets := xs) (ord := ord) h)
      generalize rowErr cols xs ord = res at *
      clear hs hv ho hx hli l2 l3 hcap hml
      by_cases c : res = 0
      · have h12 : netsOf cols xs = 0 ∧ orderOf cols ord = 0 := by
          rw [c] at hre
          by_cases h : netsOf cols xs = 0
          · rw [if_pos h] at hre; exact ⟨h, hre.symm⟩
          · rw [if_neg h] at hre; exact absurd hre.symm h
        rw [h12.1] at RN
        rw [h12.2] at RO
        subst c
        have hro := hrow.out rfl
        have hcols := hro.colsEq
        have KE := Lib.hid (fun W (h : Below w.heap.size w W) => (KE0.out W h).mono fun e w' k => (show ∃ u, e = .returned (.tuple #[.slice (some ⟨u, 0, none⟩) xs.length xs.length, .int .i64 0]) ∧ PairsV w' (some ⟨u, 0, none⟩) (extsOf xs ord) ∧ Below w.heap.size w w' by
          obtain ⟨u, k1, k2, k3, k4⟩ := k
          obtain ⟨x, rfl, k5⟩ := k3 rfl
          exact ⟨x, k1, k5, h.trans (k4.mono h.size)⟩))
        have RLe2 : Hid (∀ W, Below w.heap.size w W → Calls Tryz.prog 12 #[.slice p xs.length ca, .int .i64 cols, .slice q ord.length cb] W fun e w' => e = .returned (.tuple #[.int .i64 (lenOf ord xs), .int .i64 0]) ∧ Below W.heap.size W w') := RLe
        have hnum := Lib.hid (number_ok (lenOf ord xs))
        generalize hle : lenOf ord xs = le at *
        clear hre h12 hrow KE0 RLe hcols hle KNum KF
        go_enter Tryz.func3, Tryz.ntmps3
        go_upto_region 3 with (first 
    | (go_at_call 9; (with_reducible refine (KA.out _ ?hb).mono ?_); (case hb => repeat' (first | assumption | exact Below.size (B := w.heap.size) (by assumption) | refine Below.drew ?_ | refine Below.alloc ?_ ?_ _ | refine Below.setCell ?_ ?_ _ | refine below_drewN ?_ _)); rintro e wz ⟨rfl, hb⟩)
    | (go_at_call 10; (with_reducible refine (KL.out _ ?hb).mono ?_); (case hb => repeat' (first | assumption | exact Below.size (B := w.heap.size) (by assumption) | refine Below.drew ?_ | refine Below.alloc ?_ ?_ _ | refine Below.setCell ?_ ?_ _ | refine below_drewN ?_ _)); rintro e wz ⟨rfl, hb⟩))
        go_upto_region 4 with ((go_at_call 11; (with_reducible refine (KE.out _ ?hb).mono ?_); (case hb => repeat' (first | assumption | exact Below.size (B := w.heap.size) (by assumption) | refine Below.drew ?_ | refine Below.alloc ?_ ?_ _ | refine Below.setCell ?_ ?_ _ | refine below_drewN ?_ _)); rintro e w1 ⟨u, rfl, hpv, hb⟩))
        have HBase := Lib.hid hb
        have KLe := Lib.hid (fun W (h : Below w1.heap.size w1 W) => below_ret h (RLe2.out W (HBase.out.trans (h.mono HBase.out.size))))
        have KN := Lib.hid (fun W (h : Below w1.heap.size w1 W) => below_ret h (RN.out W (HBase.out.trans (h.mono HBase.out.size))))
        have KO := Lib.hid (fun W (h : Below w1.heap.size w1 W) => below_ret h (RO.out W (HBase.out.trans (h.mono HBase.out.size))))
        have KBL := Lib.hid (fun W (h : Below w1.heap.size w1 W) => below_ret h (RBL.out W (HBase.out.trans (h.mono HBase.out.size))))
        have KF := Lib.hid (fun W (h : Below w1.heap.size w1 W) g c a (h1 : W.cell? ⟨g, 0, none⟩ = some (.int .i64 a)) => below_ret h (lFirst_one g c a W h1))
        have KNum := Lib.hid (fun W (h : Below w1.heap.size w1 W) x e bad want => below_ret h (lNumber_any x e bad want W))
        have HX1 := Lib.hid (HX.out.below HBase.out)
        have HP1 := Lib.hid hpv
        replace hb : Below w1.heap.size w1 w1 := Below.refl _ _
        clear hpv RLe2 RN RO RBL
        go_wp2_with (first 
    | (go_at_call 12; (with_reducible refine (KLe.out _ ?hb).mono ?_); (case hb => repeat' (first | assumption | exact Below.size (B := w1.heap.size) (by assumption) | refine Below.drew ?_ | refine Below.alloc ?_ ?_ _ | refine Below.setCell ?_ ?_ _ | refine below_drewN ?_ _)); rintro e wz ⟨rfl, hb⟩)
    | (go_at_call 14; (with_reducible refine (KN.out _ ?hb).mono ?_); (case hb => repeat' (first | assumption | exact Below.size (B := w1.heap.size) (by assumption) | refine Below.drew ?_ | refine Below.alloc ?_ ?_ _ | refine Below.setCell ?_ ?_ _ | refine below_drewN ?_ _)); rintro e wz ⟨rfl, hb⟩)
    | (go_at_call 13; (with_reducible refine (KF.out _ ?hb _ _ (0) ?hc).mono ?_); (case hb => repeat' (first | assumption | exact Below.size (B := w1.heap.size) (by assumption) | refine Below.drew ?_ | refine Below.alloc ?_ ?_ _ | refine Below.setCell ?_ ?_ _ | refine below_drewN ?_ _)); (case hc => simp); rintro e wz ⟨rfl, hb⟩)
    | (go_at_call 15; (with_reducible refine (KO.out _ ?hb).mono ?_); (case hb => repeat' (first | assumption | exact Below.size (B := w1.heap.size) (by assumption) | refine Below.drew ?_ | refine Below.alloc ?_ ?_ _ | refine Below.setCell ?_ ?_ _ | refine below_drewN ?_ _)); rintro e wz ⟨rfl, hb⟩))
        go_loopw [12] (fun ii wr => ∃ (k : Nat), k ≤ xs.length ∧ ii = .int .i64 k ∧ Below w1.heap.size w1 wr) (fun ii _ => xs.length - (intOf ii).toNat)
        case atStart => exact ⟨0, Nat.zero_le _, rfl, by assumption⟩
        case round =>
          obtain ⟨k, hk, rfl, hb⟩ := hrel
          by_cases h0 : k < xs.length
          · obtain ⟨g, o, rfl, hg, hc1, q2, c2, hc2, hq⟩ := (HX1.out.below hb).at (i := k) h0
            obtain ⟨g2, o2, hgo, hg2, he1, he2⟩ := (HP1.out.below hb).at (i := k) (by rw [extsOf_len]; exact h0)
            injection hgo with hgo
            injection hgo with e1 e2 _
            subst e1
            subst e2
            rw [extsOf_get xs ord h0, Nat.zero_add] at he1 he2
            generalize xs.getD k (0, []) = n at *
            obtain ⟨sh, l⟩ := n
            simp only at hc1 hc2 hq he1 he2
            have K := Lib.hid (RX.out wr (.agg #[.int .i64 sh, .slice q2 l.length c2]) (sh, l) (HBase.out.trans (hb.mono HBase.out.size)) ⟨q2, c2, rfl, hq⟩)
            simp only at K
            generalize extOf ord l = lh at *
            obtain ⟨lo, hi⟩ := lh
            simp only at he1 he2 K
            have HB := Lib.hid hb
            clear hq hb
            go_upto_region 16 with (go_at_call 17; (with_reducible refine K.out.mono ?_); rintro e w3 ⟨rfl, hb3⟩)
            have f1 := (hb3.cell (p := ⟨u, k * 2, none⟩) hg2).trans he1
            have f2 := (hb3.cell (p := ⟨u, k * 2 + 1, none⟩) hg2).trans he2
            have HB3 := Lib.hid (HB.out.trans (hb3.mono HB.out.size))
            have heq : Sem.run Tryz.prog (Op.equalIn 10000 40 (.agg #[.int .i64 lo, .int .i64 hi]) (.agg #[.int .i64 lo, .int .i64 hi])) w3 = .ok true w3 := by rw [pair_eq]; simp
            clear hc1 hc2 he1 he2 hb3 K
            go_wp2
            go_roundw
            case rel => exact ⟨k + 1, by omega, by go_num, HB3.out⟩
            case measure => simp [intOf]; omega
          · obtain rfl : k = xs.length := by omega
            go_wp2_with (first 
    | (go_at_call 18; (with_reducible refine (KBL.out _ ?hb).mono ?_); (case hb => repeat' (first | assumption | exact Below.size (B := w1.heap.size) (by assumption) | refine Below.drew ?_ | refine Below.alloc ?_ ?_ _ | refine Below.setCell ?_ ?_ _ | refine below_drewN ?_ _)); rintro e wz ⟨rfl, hb⟩)
    | (go_at_call 16; (with_reducible refine (KNum.out _ ?hb _ _ _ _).mono ?_); (case hb => repeat' (first | assumption | exact Below.size (B := w1.heap.size) (by assumption) | refine Below.drew ?_ | refine Below.alloc ?_ ?_ _ | refine Below.setCell ?_ ?_ _ | refine below_drewN ?_ _)); rintro e wz ⟨rfl, hb⟩))
            go_ret
            exact ⟨bret hnum.out, HBase.out.trans (Below.mono (by assumption) HBase.out.size)⟩
      · have KN := Lib.hid (fun W (h : Below w.heap.size w W) => below_ret h (RN.out W h))
        have KO := Lib.hid (fun W (h : Below w.heap.size w W) => below_ret h (RO.out W h))
        have KLe := Lib.hid (fun W (h : Below w.heap.size w W) => below_ret h (RLe.out W h))
        have hne : (res != 0) = true := by simpa using c
        have hne2 : (res == 0) = false := by simpa using c
        have KE := Lib.hid (fun W (h : Below w.heap.size w W) => (KE0.out W h).mono fun e w' k => (show e = .returned (.tuple #[.slice none 0 0, .int .i64 res]) ∧ Below w.heap.size w w' by
          obtain ⟨u, k1, k2, k3, k4⟩ := k
          have := k2 c
          subst this
          exact ⟨k1, h.trans (k4.mono h.size)⟩))
        rw [if_neg c] at KLe
        have hnum := Lib.hid (number_bad c)
        clear KE0 hrow RX RBL HX RN RO RLe
        by_cases h1 : netsOf cols xs = 0
        · rw [if_pos h1] at hre
          rw [h1] at KN
          rw [← hre] at KO
          clear c h1 hre
          go_enter Tryz.func3, Tryz.ntmps3
          go_wp2_with (first 
    | (go_at_call 9; (with_reducible refine (KA.out _ ?hb).mono ?_); (case hb => repeat' (first | assumption | exact Below.size (B := w.heap.size) (by assumption) | refine Below.drew ?_ | refine Below.alloc ?_ ?_ _ | refine Below.setCell ?_ ?_ _ | refine below_drewN ?_ _)); rintro e wz ⟨rfl, hb⟩)
    | (go_at_call 10; (with_reducible refine (KL.out _ ?hb).mono ?_); (case hb => repeat' (first | assumption | exact Below.size (B := w.heap.size) (by assumption) | refine Below.drew ?_ | refine Below.alloc ?_ ?_ _ | refine Below.setCell ?_ ?_ _ | refine below_drewN ?_ _)); rintro e wz ⟨rfl, hb⟩)
    | (go_at_call 11; (with_reducible refine (KE.out _ ?hb).mono ?_); (case hb => repeat' (first | assumption | exact Below.size (B := w.heap.size) (by assumption) | refine Below.drew ?_ | refine Below.alloc ?_ ?_ _ | refine Below.setCell ?_ ?_ _ | refine below_drewN ?_ _)); rintro e wz ⟨rfl, hb⟩)
    | (go_at_call 12; (with_reducible refine (KLe.out _ ?hb).mono ?_); (case hb => repeat' (first | assumption | exact Below.size (B := w.heap.size) (by assumption) | refine Below.drew ?_ | refine Below.alloc ?_ ?_ _ | refine Below.setCell ?_ ?_ _ | refine below_drewN ?_ _)); rintro e wz ⟨rfl, hb⟩)
    | (go_at_call 14; (with_reducible refine (KN.out _ ?hb).mono ?_); (case hb => repeat' (first | assumption | exact Below.size (B := w.heap.size) (by assumption) | refine Below.drew ?_ | refine Below.alloc ?_ ?_ _ | refine Below.setCell ?_ ?_ _ | refine below_drewN ?_ _)); rintro e wz ⟨rfl, hb⟩)
    | (go_at_call 13; (with_reducible refine (KF.out _ ?hb _ _ (0) ?hc).mono ?_); (case hb => repeat' (first | assumption | exact Below.size (B := w.heap.size) (by assumption) | refine Below.drew ?_ | refine Below.alloc ?_ ?_ _ | refine Below.setCell ?_ ?_ _ | refine below_drewN ?_ _)); (case hc => simp); rintro e wz ⟨rfl, hb⟩)
    | (go_at_call 15; (with_reducible refine (KO.out _ ?hb).mono ?_); (case hb => repeat' (first | assumption | exact Below.size (B := w.heap.size) (by assumption) | refine Below.drew ?_ | refine Below.alloc ?_ ?_ _ | refine Below.setCell ?_ ?_ _ | refine below_drewN ?_ _)); rintro e wz ⟨rfl, hb⟩)
    | (go_at_call 16; (with_reducible refine (KNum.out _ ?hb _ _ _ _).mono ?_); (case hb => repeat' (first | assumption | exact Below.size (B := w.heap.size) (by assumption) | refine Below.drew ?_ | refine Below.alloc ?_ ?_ _ | refine Below.setCell ?_ ?_ _ | refine below_drewN ?_ _)); rintro e wz ⟨rfl, hb⟩))
          go_ret
          exact ⟨bret hnum.out, by assumption⟩
        · rw [if_neg h1] at hre
          rw [← hre] at KN
          clear c h1 hre
          go_enter Tryz.func3, Tryz.ntmps3
          go_wp2_with (first 
    | (go_at_call 9; (with_reducible refine (KA.out _ ?hb).mono ?_); (case hb => repeat' (first | assumption | exact Below.size (B := w.heap.size) (by assumption) | refine Below.drew ?_ | refine Below.alloc ?_ ?_ _ | refine Below.setCell ?_ ?_ _ | refine below_drewN ?_ _)); rintro e wz ⟨rfl, hb⟩)
    | (go_at_call 10; (with_reducible refine (KL.out _ ?hb).mono ?_); (case hb => repeat' (first | assumption | exact Below.size (B := w.heap.size) (by assumption) | refine Below.drew ?_ | refine Below.alloc ?_ ?_ _ | refine Below.setCell ?_ ?_ _ | refine below_drewN ?_ _)); rintro e wz ⟨rfl, hb⟩)
    | (go_at_call 11; (with_reducible refine (KE.out _ ?hb).mono ?_); (case hb => repeat' (first | assumption | exact Below.size (B := w.heap.size) (by assumption) | refine Below.drew ?_ | refine Below.alloc ?_ ?_ _ | refine Below.setCell ?_ ?_ _ | refine below_drewN ?_ _)); rintro e wz ⟨rfl, hb⟩)
    | (go_at_call 12; (with_reducible refine (KLe.out _ ?hb).mono ?_); (case hb => repeat' (first | assumption | exact Below.size (B := w.heap.size) (by assumption) | refine Below.drew ?_ | refine Below.alloc ?_ ?_ _ | refine Below.setCell ?_ ?_ _ | refine below_drewN ?_ _)); rintro e wz ⟨rfl, hb⟩)
    | (go_at_call 14; (with_reducible refine (KN.out _ ?hb).mono ?_); (case hb => repeat' (first | assumption | exact Below.size (B := w.heap.size) (by assumption) | refine Below.drew ?_ | refine Below.alloc ?_ ?_ _ | refine Below.setCell ?_ ?_ _ | refine below_drewN ?_ _)); rintro e wz ⟨rfl, hb⟩)
    | (go_at_call 13; (with_reducible refine (KF.out _ ?hb _ _ (res) ?hc).mono ?_); (case hb => repeat' (first | assumption | exact Below.size (B := w.heap.size) (by assumption) | refine Below.drew ?_ | refine Below.alloc ?_ ?_ _ | refine Below.setCell ?_ ?_ _ | refine below_drewN ?_ _)); (case hc => simp); rintro e wz ⟨rfl, hb⟩)
    | (go_at_call 16; (with_reducible refine (KNum.out _ ?hb _ _ _ _).mono ?_); (case hb => repeat' (first | assumption | exact Below.size (B := w.heap.size) (by assumption) | refine Below.drew ?_ | refine Below.alloc ?_ ?_ _ | refine Below.setCell ?_ ?_ _ | refine below_drewN ?_ _)); rintro e wz ⟨rfl, hb⟩))
          go_ret
          exact ⟨bret hnum.out, by assumption⟩
    · have hol' : (100 : Int) < ord.length := by omega
      clear hs hv ho hli KNum KF l2 l3 hol
      go_enter Tryz.func3, Tryz.ntmps3
      go_wp2_with (first 
    | (go_at_call 9; (with_reducible refine (KA.out _ ?hb).mono ?_); (case hb => repeat' (first | assumption | exact Below.size (B := w.heap.size) (by assumption) | refine Below.drew ?_ | refine Below.alloc ?_ ?_ _ | refine Below.setCell ?_ ?_ _ | refine below_drewN ?_ _)); rintro e wz ⟨rfl, hb⟩)
    | (go_at_call 10; (with_reducible refine (KL.out _ ?hb).mono ?_); (case hb => repeat' (first | assumption | exact Below.size (B := w.heap.size) (by assumption) | refine Below.drew ?_ | refine Below.alloc ?_ ?_ _ | refine Below.setCell ?_ ?_ _ | refine below_drewN ?_ _)); rintro e wz ⟨rfl, hb⟩))
      go_ret
      exact ⟨rfl, by assumption⟩
end Go.Proofs.YtggcnnpklkmeoaaGreatDoor
