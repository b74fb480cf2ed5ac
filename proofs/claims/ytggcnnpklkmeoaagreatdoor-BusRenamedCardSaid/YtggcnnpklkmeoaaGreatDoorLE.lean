import Derived.Test.YtggcnnpklkmeoaaGreatDoorLC
import Derived.Test.YtggcnnpklkmeoaaGreatDoorUD
namespace Go.Proofs.YtggcnnpklkmeoaaGreatDoor
open Go.RowKit Go

set_option maxHeartbeats 800000 in
/-- CheckOrder of the reference, of an order of another length: nothing of it is read. -/
theorem bCheckOrder_len (p : Option Addr) (ca n : Nat) (cols : Int) (w : World) (h : (n : Int) ≠ cols) :
    Calls Tryz.prog 15 #[.int .i64 cols, .slice p n ca] w fun e w' => e = .returned (.int .i64 2) ∧ Below w.heap.size w w' := by
  have hd : ((n : Int) != cols) = true := by simpa using h
  clear h
  go_enter Tryz.func15, Tryz.ntmps15
  go_wp2
  go_ret
  exact ⟨rfl, Below.refl _ _⟩

set_option maxRecDepth 100000 in
set_option maxHeartbeats 6400000 in
/-- BusLeast. -/
theorem lLeast_any (p q r : Option Addr) (ca cb cc : Nat) (xs : List (Int × List Int)) (ord tr : List Int) (cols : Int) (w : World) (hs : NetsS w p xs) (hv : xs.length ≤ 70 → (∀ x ∈ xs, x.2.length ≤ 12) → NetsV w p xs)
    (ho : ord.length ≤ 100 → IntV w q ord) (ht : tr.length ≤ 100 → IntV w r tr) (hcap : ord.length ≤ cb) (hcap2 : tr.length ≤ cc) (_hml : ord.length ≤ maxLen) (_hml2 : tr.length ≤ maxLen) :
    Calls Tryz.prog 7 #[.slice p xs.length ca, .int .i64 cols, .agg #[.slice q ord.length cb, .slice r tr.length cc]] w fun e w' => e = .returned (.bool true) ∧ Below w.heap.size w w' := by
  go_enter Tryz.func7, Tryz.ntmps7
  go_upto_region 1 with (fail)
  have B0 : BoxAt (w.alloc (.cells #[.slice q ord.length cb, .slice r tr.length cc] 49)) w.heap.size 49 [.slice q ord.length cb, .slice r tr.length cc] := BoxAt.made _ _ _
  have G0 : Below w.heap.size w (w.alloc (.cells #[.slice q ord.length cb, .slice r tr.length cc] 49)) := (Below.refl _ _).alloc (Nat.le_refl _) _
  generalize w.alloc (.cells #[.slice q ord.length cb, .slice r tr.length cc] 49) = w0 at *
  have HF := Lib.hid (fun W (h : Below w0.heap.size w0 W) => (⟨(B0.below h B0.lt).cell 0, (B0.below h B0.lt).cell 1⟩ :
    W.cell? ⟨w.heap.size, 0, none⟩ = some (.slice q ord.length cb) ∧ W.cell? ⟨w.heap.size, 1, none⟩ = some (.slice r tr.length cc)))
  have HG := Lib.hid G0
  replace hs := hs.below G0
  replace hv : xs.length ≤ 70 → (∀ x ∈ xs, x.2.length ≤ 12) → NetsV w0 p xs := fun a b => (hv a b).below G0
  replace ho : ord.length ≤ 100 → IntV w0 q ord := fun a => (ho a).below G0
  replace ht : tr.length ≤ 100 → IntV w0 r tr := fun a => (ht a).below G0
  clear B0 G0
  have hb : Below w0.heap.size w0 w0 := Below.refl _ _
  obtain ⟨c0, c1⟩ := HF.out _ hb
  have KA := Lib.hid (awake_from (w := w0))
  have KL := Lib.hid (fun W (h : Below w0.heap.size w0 W) => below_ret h (lLight_any p ca xs cols W (hs.below h) (fun a b => (hv a b).below h)))
  cases hli : lightOf cols xs with
  | false =>
    rw [hli] at KL
    clear hs hv ho ht hli
    go_wp2_with (first 
    | (go_at_call 9; (with_reducible refine (KA.out _ ?hb).mono ?_); (case hb => repeat' (first | assumption | exact Below.size (B := w0.heap.size) (by assumption) | refine Below.drew ?_ | refine Below.alloc ?_ ?_ _ | refine Below.setCell ?_ ?_ _ | refine below_drewN ?_ _)); rintro e wz ⟨rfl, hb⟩; obtain ⟨c0, c1⟩ := HF.out _ hb)
    | (go_at_call 10; (with_reducible refine (KL.out _ ?hb).mono ?_); (case hb => repeat' (first | assumption | exact Below.size (B := w0.heap.size) (by assumption) | refine Below.drew ?_ | refine Below.alloc ?_ ?_ _ | refine Below.setCell ?_ ?_ _ | refine below_drewN ?_ _)); rintro e wz ⟨rfl, hb⟩; obtain ⟨c0, c1⟩ := HF.out _ hb))
    go_ret
    exact ⟨rfl, HG.out.trans (Below.mono (by assumption) HG.out.size)⟩
  | true =>
    obtain ⟨l1, l2, l3⟩ := light_ok hli
    rw [hli] at KL
    have hx := hv l1 l2
    have KN := Lib.hid (fun W (h : Below w0.heap.size w0 W) => below_ret h (bCheckNets_any p ca xs cols W (hx.below h)))
    by_cases hne : netsOf cols xs = 0
    · have hbd := (netsOf_ok hne).1
      rw [hne] at KN
      by_cases hlen : (ord.length : Int) = cols
      · have ho := ho (by omega)
        have KO := Lib.hid (fun W (h : Below w0.heap.size w0 W) => below_ret h (bCheckOrder_any q cb ord cols W (ho.below h) hcap))
        by_cases hoe : orderOf cols ord = 0
        · rw [hoe] at KO
          by_cases htl : tr.length ≤ 20
          · have ht := ht (by omega)
            have hre : rowErr cols xs ord = 0 := by unfold rowErr; rw [if_pos hne, hoe]
            have hro := rowOk_of hre
            have RT := Lib.hid (fun W (h : Below w0.heap.size w0 W) => (uTracks_any p q ca cb xs ord cols W (hx.below h) (ho.below h)).mono fun e w' k => (show ∃ u, e = .returned (.tuple #[u, .int .i64 (dcnt (tracksOf xs ord) xs.length : Nat), .int .i64 0]) ∧ IntsAt w' u (tracksOf xs ord) ∧ Below W.heap.size W w' by
              obtain ⟨u, n, k1, _, k3, k4⟩ := k
              obtain ⟨k5, rfl⟩ := k3 hre
              rw [hre] at k1
              exact ⟨u, k1, k5, k4⟩))
            have RC := Lib.hid (fun W (h : Below w0.heap.size w0 W) => (uClique_any p q ca cb xs ord cols W (hx.below h) (ho.below h)).mono fun e w' k => (show ∃ u, e = .returned (.tuple #[u, .int .i64 (bestTo xs ord ord.length).2, .int .i64 0]) ∧ IntsAt w' u (bestTo xs ord ord.length).1 ∧ Below W.heap.size W w' by
              obtain ⟨u, n, k1, _, k3, k4⟩ := k
              obtain ⟨k5, rfl⟩ := k3 hre
              rw [hre] at k1
              exact ⟨u, k1, k5, k4⟩))
            have htl' : ¬ (20 : Int) < tr.length := by omega
            have hTl : (tracksOf xs ord).length = xs.length := (tracks_ok hro.ok).len
            have hDC := tracks_count hro.ok
            have hP := best_at (nets := xs) hro.pos
            have hown : layoutOf xs cols ord (tracksOf xs ord) = 0 := by rw [layout_row, if_pos hre]; exact tracksErr_own hro.ok hro.most
            have hcq : cliqueOf xs ord (bestTo xs ord ord.length).1 = 0 := cliqueOf_best hro.ok
            have hce : claimErr cols xs ord (bestTo xs ord ord.length).1 = 0 := by unfold claimErr; rw [if_pos hre, hcq]
            have hlea : layoutOf xs cols ord tr = 0 → (bestTo xs ord ord.length).1.length ≤ dcnt tr tr.length := fun h => by
              rw [layout_row, if_pos hre] at h
              exact least hro.ok (lays_of h)
            have HX := Lib.hid hx
            have HO := Lib.hid ho
            have HT := Lib.hid ht
            have hPc : (bestTo xs ord ord.length).2 < cols := by have := hro.colsEq; omega
            clear hs hv ho ht hx hli l2 l3 hne hoe hlen hre hro htl
            rw [← hTl] at hDC
            generalize hD : dcnt (tracksOf xs ord) xs.length = D at *
            have hDT : dcnt (tracksOf xs ord) (tracksOf xs ord).length = D := by rw [hTl]; exact hD
            rw [hDT] at hDC
            generalize tracksOf xs ord = T at *
            generalize bestTo xs ord ord.length = bt at *
            obtain ⟨C, P⟩ := bt
            simp only at RC hDC hP hcq hce hlea hPc
            obtain ⟨hP0, _⟩ := hP
            have f1 : ((T.length : Int) != (xs.length : Int)) = false := by rw [hTl]; simp
            have f2 : ((C.length : Int) != (D : Int)) = false := by rw [hDC]; simp
            have f3 : ((D : Int) != (D : Int)) = false := by simp
            have HTl := Lib.hid hTl
            have HDT := Lib.hid hDT
            have HLea := Lib.hid (show layoutOf xs cols ord tr = 0 → D ≤ dcnt tr tr.length by rw [hDC]; exact hlea)
            have HOwn := Lib.hid hown
            have HCq := Lib.hid hcq
            have HCe := Lib.hid hce
            clear hTl hDT hlea hDC hD hown hcq hce
            go_upto_region 3 with (first 
    | (go_at_call 9; (with_reducible refine (KA.out _ ?hb).mono ?_); (case hb => repeat' (first | assumption | exact Below.size (B := w0.heap.size) (by assumption) | refine Below.drew ?_ | refine Below.alloc ?_ ?_ _ | refine Below.setCell ?_ ?_ _ | refine below_drewN ?_ _)); rintro e wz ⟨rfl, hb⟩; obtain ⟨c0, c1⟩ := HF.out _ hb)
    | (go_at_call 10; (with_reducible refine (KL.out _ ?hb).mono ?_); (case hb => repeat' (first | assumption | exact Below.size (B := w0.heap.size) (by assumption) | refine Below.drew ?_ | refine Below.alloc ?_ ?_ _ | refine Below.setCell ?_ ?_ _ | refine below_drewN ?_ _)); rintro e wz ⟨rfl, hb⟩; obtain ⟨c0, c1⟩ := HF.out _ hb)
    | (go_at_call 14; (with_reducible refine (KN.out _ ?hb).mono ?_); (case hb => repeat' (first | assumption | exact Below.size (B := w0.heap.size) (by assumption) | refine Below.drew ?_ | refine Below.alloc ?_ ?_ _ | refine Below.setCell ?_ ?_ _ | refine below_drewN ?_ _)); rintro e wz ⟨rfl, hb⟩; obtain ⟨c0, c1⟩ := HF.out _ hb)
    | (go_at_call 15; (with_reducible refine (KO.out _ ?hb).mono ?_); (case hb => repeat' (first | assumption | exact Below.size (B := w0.heap.size) (by assumption) | refine Below.drew ?_ | refine Below.alloc ?_ ?_ _ | refine Below.setCell ?_ ?_ _ | refine below_drewN ?_ _)); rintro e wz ⟨rfl, hb⟩; obtain ⟨c0, c1⟩ := HF.out _ hb))
            go_upto_region 4 with (go_at_call 19; (with_reducible refine (RT.out _ ?hb).mono ?_); (case hb => assumption); rintro e w1 ⟨u1, rfl, hu1, k1⟩; obtain ⟨c0, c1⟩ := HF.out w1 (Below.trans (by assumption) (Below.mono k1 (Below.size (B := w0.heap.size) (by assumption)))))
            have HB1 : Below w0.heap.size w0 w1 := Below.trans (by assumption) (Below.mono k1 (Below.size (B := w0.heap.size) (by assumption)))
            go_upto_region 5 with (go_at_call 20; (with_reducible refine (RC.out _ HB1).mono ?_); rintro e w2 ⟨u2, rfl, hu2, k2⟩; obtain ⟨c0, c1⟩ := HF.out w2 (HB1.trans (Below.mono k2 HB1.size)))
            have HB2 : Below w0.heap.size w0 w2 := HB1.trans (k2.mono HB1.size)
            obtain ⟨p1, d1, rfl, i1, j1⟩ := hu1.below k2
            obtain ⟨p2, d2, rfl, i2, j2⟩ := hu2
            have I1 := Lib.hid i1
            have I2 := Lib.hid i2
            have HB2' := Lib.hid HB2
            clear hu1 k1 k2 i1 i2 HB1 HB2 RT RC KL KN KO KA
            go_upto_region 8 with (fail)
            have B3 : BoxAt (w2.alloc (.cells #[.slice q ord.length cb, .slice p1 T.length d1] 49)) w2.heap.size 49 [.slice q ord.length cb, .slice p1 T.length d1] := BoxAt.made _ _ _
            have G3 : Below w2.heap.size w2 (w2.alloc (.cells #[.slice q ord.length cb, .slice p1 T.length d1] 49)) := (Below.refl _ _).alloc (Nat.le_refl _) _
            generalize w2.alloc (.cells #[.slice q ord.length cb, .slice p1 T.length d1] 49) = w3 at *
            have HB3 := Lib.hid (HB2'.out.trans (G3.mono HB2'.out.size))
            have HF3 := Lib.hid (fun W (h : Below w3.heap.size w3 W) => (⟨(HF.out W (HB3.out.trans (h.mono HB3.out.size))).1, (HF.out W (HB3.out.trans (h.mono HB3.out.size))).2, (B3.below h B3.lt).cell 0, (B3.below h B3.lt).cell 1⟩ :
              W.cell? ⟨w.heap.size, 0, none⟩ = some (.slice q ord.length cb) ∧ W.cell? ⟨w.heap.size, 1, none⟩ = some (.slice r tr.length cc) ∧ W.cell? ⟨w2.heap.size, 0, none⟩ = some (.slice q ord.length cb) ∧ W.cell? ⟨w2.heap.size, 1, none⟩ = some (.slice p1 T.length d1)))
            have I1' := Lib.hid (I1.out.below G3)
            have I2' := Lib.hid (I2.out.below G3)
            have HX3 := Lib.hid (HX.out.below HB3.out)
            have HO3 := Lib.hid (HO.out.below HB3.out)
            have HT3 := Lib.hid (HT.out.below HB3.out)
            have KU1 := Lib.hid (fun W (h : Below w3.heap.size w3 W) => below_ret h (uCheckLayout_any p q p1 ca cb d1 xs ord T cols W (HX3.out.below h) (HO3.out.below h) (I1'.out.below h)))
            have KU2 := Lib.hid (fun W (h : Below w3.heap.size w3 W) => below_ret h (uCheckLayout_any p q r ca cb cc xs ord tr cols W (HX3.out.below h) (HO3.out.below h) (HT3.out.below h)))
            have KB1 := Lib.hid (fun W (h : Below w3.heap.size w3 W) => below_ret h (bCheckLayout_any (.agg #[.slice q ord.length cb, .slice p1 T.length d1]) (ord, T) p ca xs cols W (HX3.out.below h) ⟨q, cb, p1, d1, rfl, HO3.out.below h, I1'.out.below h, hcap, j1⟩))
            have KB2 := Lib.hid (fun W (h : Below w3.heap.size w3 W) => below_ret h (bCheckLayout_any (.agg #[.slice q ord.length cb, .slice r tr.length cc]) (ord, tr) p ca xs cols W (HX3.out.below h) ⟨q, cb, r, cc, rfl, HO3.out.below h, HT3.out.below h, hcap, hcap2⟩))
            have KW1 := Lib.hid (fun W (h : Below w3.heap.size w3 W) => below_ret h (bWidth_any (.agg #[.slice q ord.length cb, .slice p1 T.length d1]) (ord, T) W ⟨q, cb, p1, d1, rfl, HO3.out.below h, I1'.out.below h, hcap, j1⟩))
            have KW2 := Lib.hid (fun W (h : Below w3.heap.size w3 W) => below_ret h (bWidth_any (.agg #[.slice q ord.length cb, .slice r tr.length cc]) (ord, tr) W ⟨q, cb, r, cc, rfl, HO3.out.below h, HT3.out.below h, hcap, hcap2⟩))
            have KUC := Lib.hid (fun W (h : Below w3.heap.size w3 W) => below_ret h (uCheckClique_any p q p2 ca cb d2 xs ord C cols W (HX3.out.below h) (HO3.out.below h) (I2'.out.below h) j2))
            have KBC := Lib.hid (fun W (h : Below w3.heap.size w3 W) => below_ret h (bCheckClique_any p q p2 ca cb d2 xs ord C W (HX3.out.below h) (HO3.out.below h) (I2'.out.below h) j2))
            simp only at KB1 KB2 KW1 KW2
            rw [HOwn.out] at KU1 KB1
            rw [HDT.out] at KW1
            rw [HCe.out] at KUC
            rw [HCq.out] at KBC
            have hb : Below w3.heap.size w3 w3 := Below.refl _ _
            obtain ⟨c0, c1, e0, e1⟩ := HF3.out _ hb
            clear B3 G3
            generalize w2.heap.size = b3 at *
            generalize hlo : layoutOf xs cols ord tr = lo at *
            generalize dcnt tr tr.length = dt at *
            by_cases h3 : lo = 0
            · have hge : (D : Int) ≤ (dt : Int) := by have := HLea.out h3; omega
              subst h3
              clear hlo
              go_wp2_with (first 
    | (go_at_call 25; (with_reducible refine (KU1.out _ ?hb).mono ?_); (case hb => repeat' (first | assumption | exact Below.size (B := w3.heap.size) (by assumption) | refine Below.drew ?_ | refine Below.alloc ?_ ?_ _ | refine Below.setCell ?_ ?_ _ | refine below_drewN ?_ _)); rintro e wz ⟨rfl, hb⟩; obtain ⟨c0, c1, e0, e1⟩ := HF3.out _ hb)
    | (go_at_call 24; (with_reducible refine (KB1.out _ ?hb).mono ?_); (case hb => repeat' (first | assumption | exact Below.size (B := w3.heap.size) (by assumption) | refine Below.drew ?_ | refine Below.alloc ?_ ?_ _ | refine Below.setCell ?_ ?_ _ | refine below_drewN ?_ _)); rintro e wz ⟨rfl, hb⟩; obtain ⟨c0, c1, e0, e1⟩ := HF3.out _ hb)
    | (go_at_call 35; (with_reducible refine (KW1.out _ ?hb).mono ?_); (case hb => repeat' (first | assumption | exact Below.size (B := w3.heap.size) (by assumption) | refine Below.drew ?_ | refine Below.alloc ?_ ?_ _ | refine Below.setCell ?_ ?_ _ | refine below_drewN ?_ _)); rintro e wz ⟨rfl, hb⟩; obtain ⟨c0, c1, e0, e1⟩ := HF3.out _ hb)
    | (go_at_call 26; (with_reducible refine (KUC.out _ ?hb).mono ?_); (case hb => repeat' (first | assumption | exact Below.size (B := w3.heap.size) (by assumption) | refine Below.drew ?_ | refine Below.alloc ?_ ?_ _ | refine Below.setCell ?_ ?_ _ | refine below_drewN ?_ _)); rintro e wz ⟨rfl, hb⟩; obtain ⟨c0, c1, e0, e1⟩ := HF3.out _ hb)
    | (go_at_call 27; (with_reducible refine (KBC.out _ ?hb).mono ?_); (case hb => repeat' (first | assumption | exact Below.size (B := w3.heap.size) (by assumption) | refine Below.drew ?_ | refine Below.alloc ?_ ?_ _ | refine Below.setCell ?_ ?_ _ | refine below_drewN ?_ _)); rintro e wz ⟨rfl, hb⟩; obtain ⟨c0, c1, e0, e1⟩ := HF3.out _ hb)
    | (go_at_call 25; (with_reducible refine (KU2.out _ ?hb).mono ?_); (case hb => repeat' (first | assumption | exact Below.size (B := w3.heap.size) (by assumption) | refine Below.drew ?_ | refine Below.alloc ?_ ?_ _ | refine Below.setCell ?_ ?_ _ | refine below_drewN ?_ _)); rintro e wz ⟨rfl, hb⟩; obtain ⟨c0, c1, e0, e1⟩ := HF3.out _ hb)
    | (go_at_call 24; (with_reducible refine (KB2.out _ ?hb).mono ?_); (case hb => repeat' (first | assumption | exact Below.size (B := w3.heap.size) (by assumption) | refine Below.drew ?_ | refine Below.alloc ?_ ?_ _ | refine Below.setCell ?_ ?_ _ | refine below_drewN ?_ _)); rintro e wz ⟨rfl, hb⟩; obtain ⟨c0, c1, e0, e1⟩ := HF3.out _ hb)
    | (go_at_call 35; (with_reducible refine (KW2.out _ ?hb).mono ?_); (case hb => repeat' (first | assumption | exact Below.size (B := w3.heap.size) (by assumption) | refine Below.drew ?_ | refine Below.alloc ?_ ?_ _ | refine Below.setCell ?_ ?_ _ | refine below_drewN ?_ _)); rintro e wz ⟨rfl, hb⟩; obtain ⟨c0, c1, e0, e1⟩ := HF3.out _ hb))
              go_ret
              exact ⟨rfl, HG.out.trans (Below.mono (HB3.out.trans (Below.mono (by assumption) HB3.out.size)) HG.out.size)⟩
            · have hne : (lo != 0) = true := by simpa using h3
              clear hlo h3
              go_wp2_with (first 
    | (go_at_call 25; (with_reducible refine (KU1.out _ ?hb).mono ?_); (case hb => repeat' (first | assumption | exact Below.size (B := w3.heap.size) (by assumption) | refine Below.drew ?_ | refine Below.alloc ?_ ?_ _ | refine Below.setCell ?_ ?_ _ | refine below_drewN ?_ _)); rintro e wz ⟨rfl, hb⟩; obtain ⟨c0, c1, e0, e1⟩ := HF3.out _ hb)
    | (go_at_call 24; (with_reducible refine (KB1.out _ ?hb).mono ?_); (case hb => repeat' (first | assumption | exact Below.size (B := w3.heap.size) (by assumption) | refine Below.drew ?_ | refine Below.alloc ?_ ?_ _ | refine Below.setCell ?_ ?_ _ | refine below_drewN ?_ _)); rintro e wz ⟨rfl, hb⟩; obtain ⟨c0, c1, e0, e1⟩ := HF3.out _ hb)
    | (go_at_call 35; (with_reducible refine (KW1.out _ ?hb).mono ?_); (case hb => repeat' (first | assumption | exact Below.size (B := w3.heap.size) (by assumption) | refine Below.drew ?_ | refine Below.alloc ?_ ?_ _ | refine Below.setCell ?_ ?_ _ | refine below_drewN ?_ _)); rintro e wz ⟨rfl, hb⟩; obtain ⟨c0, c1, e0, e1⟩ := HF3.out _ hb)
    | (go_at_call 26; (with_reducible refine (KUC.out _ ?hb).mono ?_); (case hb => repeat' (first | assumption | exact Below.size (B := w3.heap.size) (by assumption) | refine Below.drew ?_ | refine Below.alloc ?_ ?_ _ | refine Below.setCell ?_ ?_ _ | refine below_drewN ?_ _)); rintro e wz ⟨rfl, hb⟩; obtain ⟨c0, c1, e0, e1⟩ := HF3.out _ hb)
    | (go_at_call 27; (with_reducible refine (KBC.out _ ?hb).mono ?_); (case hb => repeat' (first | assumption | exact Below.size (B := w3.heap.size) (by assumption) | refine Below.drew ?_ | refine Below.alloc ?_ ?_ _ | refine Below.setCell ?_ ?_ _ | refine below_drewN ?_ _)); rintro e wz ⟨rfl, hb⟩; obtain ⟨c0, c1, e0, e1⟩ := HF3.out _ hb)
    | (go_at_call 25; (with_reducible refine (KU2.out _ ?hb).mono ?_); (case hb => repeat' (first | assumption | exact Below.size (B := w3.heap.size) (by assumption) | refine Below.drew ?_ | refine Below.alloc ?_ ?_ _ | refine Below.setCell ?_ ?_ _ | refine below_drewN ?_ _)); rintro e wz ⟨rfl, hb⟩; obtain ⟨c0, c1, e0, e1⟩ := HF3.out _ hb))
              go_ret
              exact ⟨rfl, HG.out.trans (Below.mono (HB3.out.trans (Below.mono (by assumption) HB3.out.size)) HG.out.size)⟩
          · have htl' : (20 : Int) < tr.length := by omega
            clear hs hv ho ht hx hli l2 l3 hne hoe hlen htl
            go_wp2_with (first 
    | (go_at_call 9; (with_reducible refine (KA.out _ ?hb).mono ?_); (case hb => repeat' (first | assumption | exact Below.size (B := w0.heap.size) (by assumption) | refine Below.drew ?_ | refine Below.alloc ?_ ?_ _ | refine Below.setCell ?_ ?_ _ | refine below_drewN ?_ _)); rintro e wz ⟨rfl, hb⟩; obtain ⟨c0, c1⟩ := HF.out _ hb)
    | (go_at_call 10; (with_reducible refine (KL.out _ ?hb).mono ?_); (case hb => repeat' (first | assumption | exact Below.size (B := w0.heap.size) (by assumption) | refine Below.drew ?_ | refine Below.alloc ?_ ?_ _ | refine Below.setCell ?_ ?_ _ | refine below_drewN ?_ _)); rintro e wz ⟨rfl, hb⟩; obtain ⟨c0, c1⟩ := HF.out _ hb)
    | (go_at_call 14; (with_reducible refine (KN.out _ ?hb).mono ?_); (case hb => repeat' (first | assumption | exact Below.size (B := w0.heap.size) (by assumption) | refine Below.drew ?_ | refine Below.alloc ?_ ?_ _ | refine Below.setCell ?_ ?_ _ | refine below_drewN ?_ _)); rintro e wz ⟨rfl, hb⟩; obtain ⟨c0, c1⟩ := HF.out _ hb)
    | (go_at_call 15; (with_reducible refine (KO.out _ ?hb).mono ?_); (case hb => repeat' (first | assumption | exact Below.size (B := w0.heap.size) (by assumption) | refine Below.drew ?_ | refine Below.alloc ?_ ?_ _ | refine Below.setCell ?_ ?_ _ | refine below_drewN ?_ _)); rintro e wz ⟨rfl, hb⟩; obtain ⟨c0, c1⟩ := HF.out _ hb))
            go_ret
            exact ⟨rfl, HG.out.trans (Below.mono (by assumption) HG.out.size)⟩
        · have hne2 : (orderOf cols ord != 0) = true := by simpa using hoe
          generalize orderOf cols ord = oe at *
          clear hs hv ho ht hx hli l2 l3 hne hoe hlen
          go_wp2_with (first 
    | (go_at_call 9; (with_reducible refine (KA.out _ ?hb).mono ?_); (case hb => repeat' (first | assumption | exact Below.size (B := w0.heap.size) (by assumption) | refine Below.drew ?_ | refine Below.alloc ?_ ?_ _ | refine Below.setCell ?_ ?_ _ | refine below_drewN ?_ _)); rintro e wz ⟨rfl, hb⟩; obtain ⟨c0, c1⟩ := HF.out _ hb)
    | (go_at_call 10; (with_reducible refine (KL.out _ ?hb).mono ?_); (case hb => repeat' (first | assumption | exact Below.size (B := w0.heap.size) (by assumption) | refine Below.drew ?_ | refine Below.alloc ?_ ?_ _ | refine Below.setCell ?_ ?_ _ | refine below_drewN ?_ _)); rintro e wz ⟨rfl, hb⟩; obtain ⟨c0, c1⟩ := HF.out _ hb)
    | (go_at_call 14; (with_reducible refine (KN.out _ ?hb).mono ?_); (case hb => repeat' (first | assumption | exact Below.size (B := w0.heap.size) (by assumption) | refine Below.drew ?_ | refine Below.alloc ?_ ?_ _ | refine Below.setCell ?_ ?_ _ | refine below_drewN ?_ _)); rintro e wz ⟨rfl, hb⟩; obtain ⟨c0, c1⟩ := HF.out _ hb)
    | (go_at_call 15; (with_reducible refine (KO.out _ ?hb).mono ?_); (case hb => repeat' (first | assumption | exact Below.size (B := w0.heap.size) (by assumption) | refine Below.drew ?_ | refine Below.alloc ?_ ?_ _ | refine Below.setCell ?_ ?_ _ | refine below_drewN ?_ _)); rintro e wz ⟨rfl, hb⟩; obtain ⟨c0, c1⟩ := HF.out _ hb))
          go_ret
          exact ⟨rfl, HG.out.trans (Below.mono (by assumption) HG.out.size)⟩
      · have KO := Lib.hid (fun W (h : Below w0.heap.size w0 W) => below_ret h (bCheckOrder_len q cb ord.length cols W hlen))
        clear hs hv ho ht hx hli l2 l3 hne hlen
        go_wp2_with (first 
    | (go_at_call 9; (with_reducible refine (KA.out _ ?hb).mono ?_); (case hb => repeat' (first | assumption | exact Below.size (B := w0.heap.size) (by assumption) | refine Below.drew ?_ | refine Below.alloc ?_ ?_ _ | refine Below.setCell ?_ ?_ _ | refine below_drewN ?_ _)); rintro e wz ⟨rfl, hb⟩; obtain ⟨c0, c1⟩ := HF.out _ hb)
    | (go_at_call 10; (with_reducible refine (KL.out _ ?hb).mono ?_); (case hb => repeat' (first | assumption | exact Below.size (B := w0.heap.size) (by assumption) | refine Below.drew ?_ | refine Below.alloc ?_ ?_ _ | refine Below.setCell ?_ ?_ _ | refine below_drewN ?_ _)); rintro e wz ⟨rfl, hb⟩; obtain ⟨c0, c1⟩ := HF.out _ hb)
    | (go_at_call 14; (with_reducible refine (KN.out _ ?hb).mono ?_); (case hb => repeat' (first | assumption | exact Below.size (B := w0.heap.size) (by assumption) | refine Below.drew ?_ | refine Below.alloc ?_ ?_ _ | refine Below.setCell ?_ ?_ _ | refine below_drewN ?_ _)); rintro e wz ⟨rfl, hb⟩; obtain ⟨c0, c1⟩ := HF.out _ hb)
    | (go_at_call 15; (with_reducible refine (KO.out _ ?hb).mono ?_); (case hb => repeat' (first | assumption | exact Below.size (B := w0.heap.size) (by assumption) | refine Below.drew ?_ | refine Below.alloc ?_ ?_ _ | refine Below.setCell ?_ ?_ _ | refine below_drewN ?_ _)); rintro e wz ⟨rfl, hb⟩; obtain ⟨c0, c1⟩ := HF.out _ hb))
        go_ret
        exact ⟨rfl, HG.out.trans (Below.mono (by assumption) HG.out.size)⟩
    · have hne2 : (netsOf cols xs != 0) = true := by simpa using hne
      generalize netsOf cols xs = ne at *
      clear hs hv ho ht hx hli l2 l3 hne
      go_wp2_with (first 
    | (go_at_call 9; (with_reducible refine (KA.out _ ?hb).mono ?_); (case hb => repeat' (first | assumption | exact Below.size (B := w0.heap.size) (by assumption) | refine Below.drew ?_ | refine Below.alloc ?_ ?_ _ | refine Below.setCell ?_ ?_ _ | refine below_drewN ?_ _)); rintro e wz ⟨rfl, hb⟩; obtain ⟨c0, c1⟩ := HF.out _ hb)
    | (go_at_call 10; (with_reducible refine (KL.out _ ?hb).mono ?_); (case hb => repeat' (first | assumption | exact Below.size (B := w0.heap.size) (by assumption) | refine Below.drew ?_ | refine Below.alloc ?_ ?_ _ | refine Below.setCell ?_ ?_ _ | refine below_drewN ?_ _)); rintro e wz ⟨rfl, hb⟩; obtain ⟨c0, c1⟩ := HF.out _ hb)
    | (go_at_call 14; (with_reducible refine (KN.out _ ?hb).mono ?_); (case hb => repeat' (first | assumption | exact Below.size (B := w0.heap.size) (by assumption) | refine Below.drew ?_ | refine Below.alloc ?_ ?_ _ | refine Below.setCell ?_ ?_ _ | refine below_drewN ?_ _)); rintro e wz ⟨rfl, hb⟩; obtain ⟨c0, c1⟩ := HF.out _ hb))
      go_ret
      exact ⟨rfl, HG.out.trans (Below.mono (by assumption) HG.out.size)⟩
end Go.Proofs.YtggcnnpklkmeoaaGreatDoor
