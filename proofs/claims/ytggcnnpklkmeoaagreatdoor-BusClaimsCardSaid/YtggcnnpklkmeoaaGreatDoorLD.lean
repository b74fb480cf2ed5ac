import Derived.Test.YtggcnnpklkmeoaaGreatDoorLB
import Derived.Test.YtggcnnpklkmeoaaGreatDoorUD
namespace Go.Proofs.YtggcnnpklkmeoaaGreatDoor
open Go.RowKit Go

set_option maxRecDepth 100000 in
set_option maxHeartbeats 3200000 in
/-- BusClaims. -/
theorem lClaims_any (p q r s : Option Addr) (ca cb cc cd : Nat) (xs : List (Int × List Int)) (ord tr cl : List Int) (cols : Int) (w : World) (hs : NetsS w p xs) (hv : xs.length ≤ 70 → (∀ x ∈ xs, x.2.length ≤ 12) → NetsV w p xs)
    (ho : ord.length ≤ 100 → IntV w q ord) (ht : tr.length ≤ 100 → IntV w r tr) (hc : cl.length ≤ 100 → IntV w s cl) (hcap : ord.length ≤ cb) (hcap2 : tr.length ≤ cc) (hcap3 : cl.length ≤ cd) :
    Calls Tryz.prog 5 #[.slice p xs.length ca, .int .i64 cols, .agg #[.slice q ord.length cb, .slice r tr.length cc, .slice s cl.length cd]] w fun e w' => e = .returned (.bool true) ∧ Below w.heap.size w w' := by
  go_enter Tryz.func5, Tryz.ntmps5
  go_upto_region 1 with (fail)
  have B0 : BoxAt (w.alloc (.cells #[.slice q ord.length cb, .slice r tr.length cc, .slice s cl.length cd] 51)) w.heap.size 51 [.slice q ord.length cb, .slice r tr.length cc, .slice s cl.length cd] := BoxAt.made _ _ _
  have G0 : Below w.heap.size w (w.alloc (.cells #[.slice q ord.length cb, .slice r tr.length cc, .slice s cl.length cd] 51)) := (Below.refl _ _).alloc (Nat.le_refl _) _
  generalize w.alloc (.cells #[.slice q ord.length cb, .slice r tr.length cc, .slice s cl.length cd] 51) = w0 at *
  have HF := Lib.hid (fun W (h : Below w0.heap.size w0 W) => (⟨(B0.below h B0.lt).cell 0, (B0.below h B0.lt).cell 1, (B0.below h B0.lt).cell 2⟩ :
    W.cell? ⟨w.heap.size, 0, none⟩ = some (.slice q ord.length cb) ∧ W.cell? ⟨w.heap.size, 1, none⟩ = some (.slice r tr.length cc) ∧ W.cell? ⟨w.heap.size, 2, none⟩ = some (.slice s cl.length cd)))
  have HG := Lib.hid G0
  replace hs := hs.below G0
  replace hv : xs.length ≤ 70 → (∀ x ∈ xs, x.2.length ≤ 12) → NetsV w0 p xs := fun a b => (hv a b).below G0
  replace ho : ord.length ≤ 100 → IntV w0 q ord := fun a => (ho a).below G0
  replace ht : tr.length ≤ 100 → IntV w0 r tr := fun a => (ht a).below G0
  replace hc : cl.length ≤ 100 → IntV w0 s cl := fun a => (hc a).below G0
  clear B0 G0
  have hb : Below w0.heap.size w0 w0 := Below.refl _ _
  obtain ⟨c0, c1, c2⟩ := HF.out _ hb
  have KA := Lib.hid (awake_from (w := w0))
  have KL := Lib.hid (fun W (h : Below w0.heap.size w0 W) => below_ret h (lLight_any p ca xs cols W (hs.below h) (fun a b => (hv a b).below h)))
  cases hli : lightOf cols xs with
  | false =>
    rw [hli] at KL
    clear hs hv ho ht hc hli
    go_wp2_with (first 
    | (go_at_call 9; (with_reducible refine (KA.out _ ?hb).mono ?_); (case hb => repeat' (first | assumption | exact Below.size (B := w0.heap.size) (by assumption) | refine Below.drew ?_ | refine Below.alloc ?_ ?_ _ | refine Below.setCell ?_ ?_ _ | refine below_drewN ?_ _)); rintro e wz ⟨rfl, hb⟩; obtain ⟨c0, c1, c2⟩ := HF.out _ hb)
    | (go_at_call 10; (with_reducible refine (KL.out _ ?hb).mono ?_); (case hb => repeat' (first | assumption | exact Below.size (B := w0.heap.size) (by assumption) | refine Below.drew ?_ | refine Below.alloc ?_ ?_ _ | refine Below.setCell ?_ ?_ _ | refine below_drewN ?_ _)); rintro e wz ⟨rfl, hb⟩; obtain ⟨c0, c1, c2⟩ := HF.out _ hb))
    go_ret
    exact ⟨rfl, HG.out.trans (Below.mono (by assumption) HG.out.size)⟩
  | true =>
    obtain ⟨l1, l2, l3⟩ := light_ok hli
    rw [hli] at KL
    by_cases hol : ord.length ≤ 100
    · by_cases htl : tr.length ≤ 100
      · by_cases hcl : cl.length ≤ 100
        · have hx := hv l1 l2
          have ho := ho hol
          have ht := ht htl
          have hc := hc hcl
          have KN := Lib.hid (fun W (h : Below w0.heap.size w0 W) => below_ret h (bCheckNets_any p ca xs cols W (hx.below h)))
          have KO := Lib.hid (fun W (h : Below w0.heap.size w0 W) => below_ret h (bCheckOrder_any q cb ord cols W (ho.below h) hcap))
          have KBL := Lib.hid (fun W (h : Below w0.heap.size w0 W) => below_ret h (bCheckLayout_any (.agg #[.slice q ord.length cb, .slice r tr.length cc]) (ord, tr) p ca xs cols W (hx.below h) ⟨q, cb, r, cc, rfl, ho.below h, ht.below h, hcap, hcap2⟩))
          have KUL := Lib.hid (fun W (h : Below w0.heap.size w0 W) => below_ret h (uCheckLayout_any p q r ca cb cc xs ord tr cols W (hx.below h) (ho.below h) (ht.below h)))
          have KUC := Lib.hid (fun W (h : Below w0.heap.size w0 W) => below_ret h (uCheckClique_any p q s ca cb cd xs ord cl cols W (hx.below h) (ho.below h) (hc.below h) hcap3))
          have KBC := Lib.hid (fun W (h : Below w0.heap.size w0 W) => below_ret h (bCheckClique_any p q s ca cb cd xs ord cl W (hx.below h) (ho.below h) (hc.below h) hcap3))
          have hol' : ¬ (100 : Int) < ord.length := by omega
          have htl' : ¬ (100 : Int) < tr.length := by omega
          have hcl' : ¬ (100 : Int) < cl.length := by omega
          have hce : claimErr cols xs ord cl = if netsOf cols xs = 0 then (if orderOf cols ord = 0 then cliqueOf xs ord cl else orderOf cols ord) else netsOf cols xs := by
            unfold claimErr rowErr
            by_cases h1 : netsOf cols xs = 0
            · rw [if_pos h1, if_pos h1]
            · rw [if_neg h1, if_neg h1, if_neg h1]
          simp only at KBL
          generalize layoutOf xs cols ord tr = lo at *
          have hlo : (lo != lo) = false := by simp
          generalize claimErr cols xs ord cl = ce at *
          have hcc : (ce == ce) = true := by simp
          clear hs hv ho ht hc hx hli l2 l3 hol htl hcl hcap hcap2 hcap3
          by_cases h1 : netsOf cols xs = 0
          · rw [if_pos h1] at hce
            rw [h1] at KN
            by_cases h2 : orderOf cols ord = 0
            · rw [if_pos h2] at hce
              rw [h2] at KO
              rw [← hce] at KBC
              clear hce h1 h2
              go_wp2_with (first 
    | (go_at_call 9; (with_reducible refine (KA.out _ ?hb).mono ?_); (case hb => repeat' (first | assumption | exact Below.size (B := w0.heap.size) (by assumption) | refine Below.drew ?_ | refine Below.alloc ?_ ?_ _ | refine Below.setCell ?_ ?_ _ | refine below_drewN ?_ _)); rintro e wz ⟨rfl, hb⟩; obtain ⟨c0, c1, c2⟩ := HF.out _ hb)
    | (go_at_call 10; (with_reducible refine (KL.out _ ?hb).mono ?_); (case hb => repeat' (first | assumption | exact Below.size (B := w0.heap.size) (by assumption) | refine Below.drew ?_ | refine Below.alloc ?_ ?_ _ | refine Below.setCell ?_ ?_ _ | refine below_drewN ?_ _)); rintro e wz ⟨rfl, hb⟩; obtain ⟨c0, c1, c2⟩ := HF.out _ hb)
    | (go_at_call 24; (with_reducible refine (KBL.out _ ?hb).mono ?_); (case hb => repeat' (first | assumption | exact Below.size (B := w0.heap.size) (by assumption) | refine Below.drew ?_ | refine Below.alloc ?_ ?_ _ | refine Below.setCell ?_ ?_ _ | refine below_drewN ?_ _)); rintro e wz ⟨rfl, hb⟩; obtain ⟨c0, c1, c2⟩ := HF.out _ hb)
    | (go_at_call 25; (with_reducible refine (KUL.out _ ?hb).mono ?_); (case hb => repeat' (first | assumption | exact Below.size (B := w0.heap.size) (by assumption) | refine Below.drew ?_ | refine Below.alloc ?_ ?_ _ | refine Below.setCell ?_ ?_ _ | refine below_drewN ?_ _)); rintro e wz ⟨rfl, hb⟩; obtain ⟨c0, c1, c2⟩ := HF.out _ hb)
    | (go_at_call 26; (with_reducible refine (KUC.out _ ?hb).mono ?_); (case hb => repeat' (first | assumption | exact Below.size (B := w0.heap.size) (by assumption) | refine Below.drew ?_ | refine Below.alloc ?_ ?_ _ | refine Below.setCell ?_ ?_ _ | refine below_drewN ?_ _)); rintro e wz ⟨rfl, hb⟩; obtain ⟨c0, c1, c2⟩ := HF.out _ hb)
    | (go_at_call 14; (with_reducible refine (KN.out _ ?hb).mono ?_); (case hb => repeat' (first | assumption | exact Below.size (B := w0.heap.size) (by assumption) | refine Below.drew ?_ | refine Below.alloc ?_ ?_ _ | refine Below.setCell ?_ ?_ _ | refine below_drewN ?_ _)); rintro e wz ⟨rfl, hb⟩; obtain ⟨c0, c1, c2⟩ := HF.out _ hb)
    | (go_at_call 15; (with_reducible refine (KO.out _ ?hb).mono ?_); (case hb => repeat' (first | assumption | exact Below.size (B := w0.heap.size) (by assumption) | refine Below.drew ?_ | refine Below.alloc ?_ ?_ _ | refine Below.setCell ?_ ?_ _ | refine below_drewN ?_ _)); rintro e wz ⟨rfl, hb⟩; obtain ⟨c0, c1, c2⟩ := HF.out _ hb)
    | (go_at_call 27; (with_reducible refine (KBC.out _ ?hb).mono ?_); (case hb => repeat' (first | assumption | exact Below.size (B := w0.heap.size) (by assumption) | refine Below.drew ?_ | refine Below.alloc ?_ ?_ _ | refine Below.setCell ?_ ?_ _ | refine below_drewN ?_ _)); rintro e wz ⟨rfl, hb⟩; obtain ⟨c0, c1, c2⟩ := HF.out _ hb))
              go_ret
              exact ⟨rfl, HG.out.trans (Below.mono (by assumption) HG.out.size)⟩
            · rw [if_neg h2] at hce
              rw [← hce] at KO h2
              have hne : (ce == 0) = false := by simpa using h2
              clear hce h1 h2 KBC
              go_wp2_with (first 
    | (go_at_call 9; (with_reducible refine (KA.out _ ?hb).mono ?_); (case hb => repeat' (first | assumption | exact Below.size (B := w0.heap.size) (by assumption) | refine Below.drew ?_ | refine Below.alloc ?_ ?_ _ | refine Below.setCell ?_ ?_ _ | refine below_drewN ?_ _)); rintro e wz ⟨rfl, hb⟩; obtain ⟨c0, c1, c2⟩ := HF.out _ hb)
    | (go_at_call 10; (with_reducible refine (KL.out _ ?hb).mono ?_); (case hb => repeat' (first | assumption | exact Below.size (B := w0.heap.size) (by assumption) | refine Below.drew ?_ | refine Below.alloc ?_ ?_ _ | refine Below.setCell ?_ ?_ _ | refine below_drewN ?_ _)); rintro e wz ⟨rfl, hb⟩; obtain ⟨c0, c1, c2⟩ := HF.out _ hb)
    | (go_at_call 24; (with_reducible refine (KBL.out _ ?hb).mono ?_); (case hb => repeat' (first | assumption | exact Below.size (B := w0.heap.size) (by assumption) | refine Below.drew ?_ | refine Below.alloc ?_ ?_ _ | refine Below.setCell ?_ ?_ _ | refine below_drewN ?_ _)); rintro e wz ⟨rfl, hb⟩; obtain ⟨c0, c1, c2⟩ := HF.out _ hb)
    | (go_at_call 25; (with_reducible refine (KUL.out _ ?hb).mono ?_); (case hb => repeat' (first | assumption | exact Below.size (B := w0.heap.size) (by assumption) | refine Below.drew ?_ | refine Below.alloc ?_ ?_ _ | refine Below.setCell ?_ ?_ _ | refine below_drewN ?_ _)); rintro e wz ⟨rfl, hb⟩; obtain ⟨c0, c1, c2⟩ := HF.out _ hb)
    | (go_at_call 26; (with_reducible refine (KUC.out _ ?hb).mono ?_); (case hb => repeat' (first | assumption | exact Below.size (B := w0.heap.size) (by assumption) | refine Below.drew ?_ | refine Below.alloc ?_ ?_ _ | refine Below.setCell ?_ ?_ _ | refine below_drewN ?_ _)); rintro e wz ⟨rfl, hb⟩; obtain ⟨c0, c1, c2⟩ := HF.out _ hb)
    | (go_at_call 14; (with_reducible refine (KN.out _ ?hb).mono ?_); (case hb => repeat' (first | assumption | exact Below.size (B := w0.heap.size) (by assumption) | refine Below.drew ?_ | refine Below.alloc ?_ ?_ _ | refine Below.setCell ?_ ?_ _ | refine below_drewN ?_ _)); rintro e wz ⟨rfl, hb⟩; obtain ⟨c0, c1, c2⟩ := HF.out _ hb)
    | (go_at_call 15; (with_reducible refine (KO.out _ ?hb).mono ?_); (case hb => repeat' (first | assumption | exact Below.size (B := w0.heap.size) (by assumption) | refine Below.drew ?_ | refine Below.alloc ?_ ?_ _ | refine Below.setCell ?_ ?_ _ | refine below_drewN ?_ _)); rintro e wz ⟨rfl, hb⟩; obtain ⟨c0, c1, c2⟩ := HF.out _ hb))
              go_ret
              exact ⟨rfl, HG.out.trans (Below.mono (by assumption) HG.out.size)⟩
          · rw [if_neg h1] at hce
            rw [← hce] at KN h1
            have hne : (ce == 0) = false := by simpa using h1
            clear hce h1 KBC KO
            go_wp2_with (first 
    | (go_at_call 9; (with_reducible refine (KA.out _ ?hb).mono ?_); (case hb => repeat' (first | assumption | exact Below.size (B := w0.heap.size) (by assumption) | refine Below.drew ?_ | refine Below.alloc ?_ ?_ _ | refine Below.setCell ?_ ?_ _ | refine below_drewN ?_ _)); rintro e wz ⟨rfl, hb⟩; obtain ⟨c0, c1, c2⟩ := HF.out _ hb)
    | (go_at_call 10; (with_reducible refine (KL.out _ ?hb).mono ?_); (case hb => repeat' (first | assumption | exact Below.size (B := w0.heap.size) (by assumption) | refine Below.drew ?_ | refine Below.alloc ?_ ?_ _ | refine Below.setCell ?_ ?_ _ | refine below_drewN ?_ _)); rintro e wz ⟨rfl, hb⟩; obtain ⟨c0, c1, c2⟩ := HF.out _ hb)
    | (go_at_call 24; (with_reducible refine (KBL.out _ ?hb).mono ?_); (case hb => repeat' (first | assumption | exact Below.size (B := w0.heap.size) (by assumption) | refine Below.drew ?_ | refine Below.alloc ?_ ?_ _ | refine Below.setCell ?_ ?_ _ | refine below_drewN ?_ _)); rintro e wz ⟨rfl, hb⟩; obtain ⟨c0, c1, c2⟩ := HF.out _ hb)
    | (go_at_call 25; (with_reducible refine (KUL.out _ ?hb).mono ?_); (case hb => repeat' (first | assumption | exact Below.size (B := w0.heap.size) (by assumption) | refine Below.drew ?_ | refine Below.alloc ?_ ?_ _ | refine Below.setCell ?_ ?_ _ | refine below_drewN ?_ _)); rintro e wz ⟨rfl, hb⟩; obtain ⟨c0, c1, c2⟩ := HF.out _ hb)
    | (go_at_call 26; (with_reducible refine (KUC.out _ ?hb).mono ?_); (case hb => repeat' (first | assumption | exact Below.size (B := w0.heap.size) (by assumption) | refine Below.drew ?_ | refine Below.alloc ?_ ?_ _ | refine Below.setCell ?_ ?_ _ | refine below_drewN ?_ _)); rintro e wz ⟨rfl, hb⟩; obtain ⟨c0, c1, c2⟩ := HF.out _ hb)
    | (go_at_call 14; (with_reducible refine (KN.out _ ?hb).mono ?_); (case hb => repeat' (first | assumption | exact Below.size (B := w0.heap.size) (by assumption) | refine Below.drew ?_ | refine Below.alloc ?_ ?_ _ | refine Below.setCell ?_ ?_ _ | refine below_drewN ?_ _)); rintro e wz ⟨rfl, hb⟩; obtain ⟨c0, c1, c2⟩ := HF.out _ hb))
            go_ret
            exact ⟨rfl, HG.out.trans (Below.mono (by assumption) HG.out.size)⟩
        · have hol' : ¬ (100 : Int) < ord.length := by omega
          have htl' : ¬ (100 : Int) < tr.length := by omega
          have hcl' : (100 : Int) < cl.length := by omega
          clear hs hv ho ht hc hli l2 l3 hcl
          go_wp2_with (first 
    | (go_at_call 9; (with_reducible refine (KA.out _ ?hb).mono ?_); (case hb => repeat' (first | assumption | exact Below.size (B := w0.heap.size) (by assumption) | refine Below.drew ?_ | refine Below.alloc ?_ ?_ _ | refine Below.setCell ?_ ?_ _ | refine below_drewN ?_ _)); rintro e wz ⟨rfl, hb⟩; obtain ⟨c0, c1, c2⟩ := HF.out _ hb)
    | (go_at_call 10; (with_reducible refine (KL.out _ ?hb).mono ?_); (case hb => repeat' (first | assumption | exact Below.size (B := w0.heap.size) (by assumption) | refine Below.drew ?_ | refine Below.alloc ?_ ?_ _ | refine Below.setCell ?_ ?_ _ | refine below_drewN ?_ _)); rintro e wz ⟨rfl, hb⟩; obtain ⟨c0, c1, c2⟩ := HF.out _ hb))
          go_ret
          exact ⟨rfl, HG.out.trans (Below.mono (by assumption) HG.out.size)⟩
      · have hol' : ¬ (100 : Int) < ord.length := by omega
        have htl' : (100 : Int) < tr.length := by omega
        clear hs hv ho ht hc hli l2 l3 htl
        go_wp2_with (first 
    | (go_at_call 9; (with_reducible refine (KA.out _ ?hb).mono ?_); (case hb => repeat' (first | assumption | exact Below.size (B := w0.heap.size) (by assumption) | refine Below.drew ?_ | refine Below.alloc ?_ ?_ _ | refine Below.setCell ?_ ?_ _ | refine below_drewN ?_ _)); rintro e wz ⟨rfl, hb⟩; obtain ⟨c0, c1, c2⟩ := HF.out _ hb)
    | (go_at_call 10; (with_reducible refine (KL.out _ ?hb).mono ?_); (case hb => repeat' (first | assumption | exact Below.size (B := w0.heap.size) (by assumption) | refine Below.drew ?_ | refine Below.alloc ?_ ?_ _ | refine Below.setCell ?_ ?_ _ | refine below_drewN ?_ _)); rintro e wz ⟨rfl, hb⟩; obtain ⟨c0, c1, c2⟩ := HF.out _ hb))
        go_ret
        exact ⟨rfl, HG.out.trans (Below.mono (by assumption) HG.out.size)⟩
    · have hol' : (100 : Int) < ord.length := by omega
      clear hs hv ho ht hc hli l2 l3 hol
      go_wp2_with (first 
    | (go_at_call 9; (with_reducible refine (KA.out _ ?hb).mono ?_); (case hb => repeat' (first | assumption | exact Below.size (B := w0.heap.size) (by assumption) | refine Below.drew ?_ | refine Below.alloc ?_ ?_ _ | refine Below.setCell ?_ ?_ _ | refine below_drewN ?_ _)); rintro e wz ⟨rfl, hb⟩; obtain ⟨c0, c1, c2⟩ := HF.out _ hb)
    | (go_at_call 10; (with_reducible refine (KL.out _ ?hb).mono ?_); (case hb => repeat' (first | assumption | exact Below.size (B := w0.heap.size) (by assumption) | refine Below.drew ?_ | refine Below.alloc ?_ ?_ _ | refine Below.setCell ?_ ?_ _ | refine below_drewN ?_ _)); rintro e wz ⟨rfl, hb⟩; obtain ⟨c0, c1, c2⟩ := HF.out _ hb))
      go_ret
      exact ⟨rfl, HG.out.trans (Below.mono (by assumption) HG.out.size)⟩
end Go.Proofs.YtggcnnpklkmeoaaGreatDoor
