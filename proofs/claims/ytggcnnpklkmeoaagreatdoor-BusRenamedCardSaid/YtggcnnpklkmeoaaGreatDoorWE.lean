import Derived.Test.YtggcnnpklkmeoaaGreatDoorWD
namespace Go.Proofs.YtggcnnpklkmeoaaGreatDoor
open Go.RowKit Go

def trackOk (t : Int) : Bool := decide (0 ≤ t) && decide (t < 64)

/-- Is net i apart from the first k nets on its track? -/
def rowApart (nets : List (Int × List Int)) (ord tr : List Int) (i : Nat) : Nat → Bool
  | 0 => true
  | k + 1 => rowApart nets ord tr i k && !(decide (tr.getD i 0 = tr.getD k 0) && meetB ord (nets.getD i (0, [])).2 (nets.getD k (0, [])).2)
def allApart (nets : List (Int × List Int)) (ord tr : List Int) : Nat → Bool
  | 0 => true
  | i + 1 => allApart nets ord tr i && rowApart nets ord tr i i

theorem rowApart_false {nets : List (Int × List Int)} {ord tr : List Int} {i k : Nat} (h : rowApart nets ord tr i (k + 1) = false) : ∀ {m : Nat}, k < m → rowApart nets ord tr i m = false
  | 0, hk => by omega
  | m + 1, hk => by
    by_cases e : k = m
    · subst e; exact h
    · unfold rowApart; rw [rowApart_false h (by omega)]; rfl

theorem allApart_false {nets : List (Int × List Int)} {ord tr : List Int} {i : Nat} (h : rowApart nets ord tr i i = false) : ∀ {m : Nat}, i < m → allApart nets ord tr m = false
  | 0, hk => by omega
  | m + 1, hk => by
    unfold allApart
    by_cases e : i = m
    · subst e; rw [h, Bool.and_false]
    · rw [allApart_false h (by omega)]; rfl

/-- The error of tracks of valid nets in a valid order. -/
def tracksErr (nets : List (Int × List Int)) (ord tr : List Int) : Int :=
  if tr.length = nets.length then (if tr.all trackOk = true then (if allApart nets ord tr nets.length = true then 0 else 30) else 3) else 2
/-- The error of a layout. -/
def layoutOf (nets : List (Int × List Int)) (cols : Int) (ord tr : List Int) : Int :=
  if netsOf cols nets = 0 then (if orderOf cols ord = 0 then tracksErr nets ord tr else orderOf cols ord) else netsOf cols nets

theorem allT_succ {tr : List Int} {k : Nat} (h0 : k < tr.length) (h : (tr.take k).all trackOk = true) (h2 : trackOk (tr.getD k 0) = true) : (tr.take (k + 1)).all trackOk = true := by
  rw [int_take h0, List.all_append, h]; simp only [List.all_cons, List.all_nil, h2, Bool.and_self]

theorem allT_bad {tr : List Int} {k : Nat} (h0 : k < tr.length) (h2 : trackOk (tr.getD k 0) = false) : tr.all trackOk = false := by
  rw [List.all_eq_false]
  refine ⟨tr.getD k 0, ?_, by rw [h2]; decide⟩
  rw [List.getD_eq_getElem?_getD, List.getElem?_eq_getElem h0]; exact List.getElem_mem h0

set_option maxHeartbeats 8000000 in
set_option maxRecDepth 100000 in
/-- CheckLayout of the reference of chapter 7. -/
theorem bCheckLayout_any (v : Value) (x : List Int × List Int) (p : Option Addr) (ca : Nat) (nets : List (Int × List Int)) (cols : Int) (w : World) (hx : NetsV w p nets) (hv : LayV w v x) :
    Calls Tryz.prog 24 #[.slice p nets.length ca, .int .i64 cols, v] w fun e w' => e = .returned (.int .i64 (layoutOf nets cols x.1 x.2)) ∧ Below w.heap.size w w' := by
  obtain ⟨q, cb, r, cc, rfl, ho, ht, hcap, hcap2⟩ := hv
  obtain ⟨ord, tr⟩ := x
  simp only at ho ht hcap hcap2 ⊢
  have hm := hx.1
  have hm2 := ht.1
  have hr : layoutOf nets cols ord tr = if netsOf cols nets = 0 then (if orderOf cols ord = 0 then tracksErr nets ord tr else orderOf cols ord) else netsOf cols nets := rfl
  generalize layoutOf nets cols ord tr = res at *
  have HR := Lib.hid hr
  have KN := Lib.hid (fun W (h : Below w.heap.size w W) => bCheckNets_any p ca nets cols W (hx.below h))
  have KO := Lib.hid (fun W (h : Below w.heap.size w W) => bCheckOrder_any q cb ord cols W (ho.below h) hcap)
  generalize hen : netsOf cols nets = en at *
  generalize heo : orderOf cols ord = eo at *
  have HX := Lib.hid hx
  have HO := Lib.hid ho
  have HT := Lib.hid ht
  clear hr hen heo hx ho ht
  go_enter Tryz.func24, Tryz.ntmps24
  go_wp2_with fail
  have G0 : Below w.heap.size w (w.alloc (.cells #[.slice q ord.length cb, .slice r tr.length cc] 49)) := (Below.refl _ _).alloc (Nat.le_refl _) _
  have G1 : (w.alloc (.cells #[.slice q ord.length cb, .slice r tr.length cc] 49)).cell? ⟨w.heap.size, 0, none⟩ = some (.slice q ord.length cb) := by go_simp
  have G2 : (w.alloc (.cells #[.slice q ord.length cb, .slice r tr.length cc] 49)).cell? ⟨w.heap.size, 1, none⟩ = some (.slice r tr.length cc) := by go_simp
  have G3 : w.heap.size < (w.alloc (.cells #[.slice q ord.length cb, .slice r tr.length cc] 49)).heap.size := by simp
  generalize w.alloc (.cells #[.slice q ord.length cb, .slice r tr.length cc] 49) = W0 at *
  have HF := Lib.hid (fun W (h : Below W0.heap.size W0 W) => (⟨(h.cell (p := ⟨w.heap.size, 0, none⟩) G3).trans G1, (h.cell (p := ⟨w.heap.size, 1, none⟩) G3).trans G2⟩ : W.cell? ⟨w.heap.size, 0, none⟩ = some (.slice q ord.length cb) ∧ W.cell? ⟨w.heap.size, 1, none⟩ = some (.slice r tr.length cc)))
  have HL := Lib.hid (fun W (h : Below W0.heap.size W0 W) => G0.trans (h.mono G0.size))
  have HG0 := Lib.hid G0
  clear G0 G1 G2 G3
  refine (KN.out W0 HG0.out).mono ?_
  rintro e w1 ⟨rfl, hb1⟩
  obtain ⟨c1, c2⟩ := HF.out w1 hb1
  by_cases hn : en = 0
  · subst hn
    have hz : res = if eo = 0 then tracksErr nets ord tr else eo := by rw [HR.out, if_pos rfl]
    have HZ := Lib.hid hz
    clear hz
    go_wp2_with fail
    refine (KO.out w1 (HL.out _ hb1)).mono ?_
    rintro e w2 ⟨rfl, hb2⟩
    have hb12 : Below W0.heap.size W0 w2 := hb1.trans (hb2.mono hb1.size)
    have HB12 := Lib.hid hb12
    obtain ⟨c1, c2⟩ := HF.out w2 hb12
    clear hb12 hb1 hb2
    by_cases ho : eo = 0
    · subst ho
      by_cases hl : tr.length = nets.length
      · have hz : res = if tr.all trackOk = true then (if allApart nets ord tr nets.length = true then 0 else 30) else 3 := by rw [HZ.out, if_pos rfl]; unfold tracksErr; rw [if_pos hl]
        have HY := Lib.hid hz
        have hl' : ((tr.length : Int) != (nets.length : Int)) = false := by rw [hl]; simp
        have hlen : nets.length = tr.length := hl.symm
        clear hz hl
        go_wp2
        go_loopw [8] (fun ii wr => ∃ (k : Nat), k ≤ tr.length ∧ ii = .int .i64 k ∧ Hid ((tr.take k).all trackOk = true) ∧ Below W0.heap.size W0 wr) (fun ii _ => tr.length - (intOf ii).toNat)
        case atStart => exact ⟨0, Nat.zero_le _, rfl, Lib.hid rfl, HB12.out⟩
        case round =>
          obtain ⟨k, hk, rfl, hrel, hb⟩ := hrel
          obtain ⟨c1, c2⟩ := HF.out wr hb
          by_cases h0 : k < tr.length
          · obtain ⟨gt, ot, rfl, hgt, hct⟩ := (HT.out.below (HL.out _ hb)).at (i := k) h0
            have hbad : trackOk (tr.getD k 0) = false → tr.all trackOk = false := allT_bad h0
            have hgood : trackOk (tr.getD k 0) = true → (tr.take (k + 1)).all trackOk = true := allT_succ h0 hrel.out
            generalize tr.getD k 0 = t at *
            have HBad := Lib.hid hbad
            have HGood := Lib.hid hgood
            clear hbad hgood
            by_cases h1 : t < 0
            · have hz : res = 3 := by rw [HY.out, if_neg]; rw [HBad.out (by unfold trackOk; rw [decide_eq_false (by omega)]; rfl)]; decide
              have HZ2 := Lib.hid hz
              clear hz
              go_wp2
              go_ret
              exact ⟨iret HZ2.out.symm, HL.out _ hb⟩
            by_cases h2 : 64 ≤ t
            · have hz : res = 3 := by rw [HY.out, if_neg]; rw [HBad.out (by unfold trackOk; rw [decide_eq_true (by omega), decide_eq_false (by omega)]; rfl)]; decide
              have HZ2 := Lib.hid hz
              clear hz
              go_wp2
              go_ret
              exact ⟨iret HZ2.out.symm, HL.out _ hb⟩
            have hz := HGood.out (by unfold trackOk; rw [decide_eq_true (by omega), decide_eq_true (by omega)]; rfl)
            have HZ2 := Lib.hid hz
            clear hz
            go_wp2
            go_roundw
            case rel => exact ⟨k + 1, by omega, by go_num, HZ2, hb⟩
            case measure => simp [intOf]; omega
          · obtain rfl : k = tr.length := by omega
            have hall : tr.all trackOk = true := by have := hrel.out; rwa [List.take_length] at this
            have hz : res = if allApart nets ord tr nets.length = true then 0 else 30 := by rw [HY.out, if_pos hall]
            have HW := Lib.hid hz
            clear hz hall
            go_wp2
            have HLen := Lib.hid hlen
            go_loopw [9] (fun ii wr => ∃ (i : Nat), i ≤ tr.length ∧ ii = .int .i64 i ∧ Hid (allApart nets ord tr i = true) ∧ Below W0.heap.size W0 wr) (fun ii _ => tr.length - (intOf ii).toNat)
            case atStart => exact ⟨0, Nat.zero_le _, rfl, Lib.hid rfl, hb⟩
            case round =>
              obtain ⟨i, hi, rfl, hrel2, hb2⟩ := hrel
              by_cases h3 : i < tr.length
              · go_wp2
                obtain ⟨wo, hwo⟩ : ∃ wo : World, wo = wr := ⟨_, rfl⟩
                rw [← hwo] at hb2
                have HBo := Lib.hid hb2
                rw [← hwo]
                clear hwo hb2
                go_loopw [10] (fun ji wj => ∃ (k : Nat), k ≤ i ∧ ji = .int .i64 k ∧ Hid (rowApart nets ord tr i k = true) ∧ Below W0.heap.size W0 wj) (fun ji _ => i - (intOf ji).toNat)
                case atStart => exact ⟨0, Nat.zero_le _, rfl, Lib.hid rfl, HBo.out⟩
                case round =>
                  obtain ⟨k, hk2, rfl, hrel3, hbj⟩ := hrel
                  obtain ⟨c1, c2⟩ := HF.out wr hbj
                  by_cases h6 : k < i
                  · have hbw := HL.out _ hbj
                    obtain ⟨gt, ot, rfl, hgt, hti⟩ := (HT.out.below hbw).at (i := i) h3
                    obtain ⟨gt', ot', hgo, hgt', htk⟩ := (HT.out.below hbw).at (i := k) (by omega)
                    injection hgo with hgo; injection hgo with e1 e2 e3
                    subst e1; subst e2
                    obtain ⟨gn, on, rfl, hgn, ha1, qa, capa, ha2, hqa⟩ := (HX.out.below hbw).at (i := i) (by rw [HLen.out]; exact h3)
                    obtain ⟨gn', on', hgo, hgn', hb1, qb, capb, hb2, hqb⟩ := (HX.out.below hbw).at (i := k) (by rw [HLen.out]; omega)
                    injection hgo with hgo; injection hgo with e1 e2 e3
                    subst e1; subst e2
                    have hrow : rowApart nets ord tr i (k + 1) = !(decide (tr.getD i 0 = tr.getD k 0) && meetB ord (nets.getD i (0, [])).2 (nets.getD k (0, [])).2) := by
                      show (rowApart nets ord tr i k && _) = _
                      rw [hrel3.out, Bool.true_and]
                    have hfalse : rowApart nets ord tr i (k + 1) = false → res = 30 := by
                      intro h
                      rw [HW.out, allApart_false (rowApart_false h h6) (by rw [HLen.out]; exact h3)]; rfl
                    generalize tr.getD i 0 = ti at *
                    generalize tr.getD k 0 = tk at *
                    generalize nets.getD i (0, []) = na at *
                    generalize nets.getD k (0, []) = nb at *
                    obtain ⟨sa, la⟩ := na
                    obtain ⟨sb, lb⟩ := nb
                    simp only at ha1 ha2 hqa hb1 hb2 hqb hrow
                    have K := Lib.hid (fun W (h : Below wr.heap.size wr W) => bMeet_any (.agg #[.int .i64 sa, .slice qa la.length capa]) (.agg #[.int .i64 sb, .slice qb lb.length capb]) (sa, la) (sb, lb) q cb ord W ⟨qa, capa, rfl, hqa.below h⟩ ⟨qb, capb, rfl, hqb.below h⟩ ((HO.out.below hbw).below h))
                    simp only at K
                    have HRow := Lib.hid hrow
                    have HFalse := Lib.hid hfalse
                    have HBJ := Lib.hid hbj
                    have hkl : k < tr.length := by omega
                    have HDW := Lib.hid ((Below.refl _ _).drew : Below wr.heap.size wr wr.drew)
                    clear hrow hfalse hbw hbj hqa hqb
                    by_cases h7 : ti = tk
                    · have h7' : (ti == tk) = true := by simp [h7]
                      have H7 := Lib.hid h7
                      clear h7
                      cases hmt : meetB ord la lb with
                      | true =>
                        have hz : res = 30 := HFalse.out (by rw [HRow.out, hmt, decide_eq_true H7.out]; rfl)
                        have HZ3 := Lib.hid hz
                        clear hz
                        go_wp2
                        go_still_tail 22, (by kernel_rfl)
                        change wpList _ _ _ _ _ wr.drew
                        generalize wr.drew = w2 at *
                        go_wp2_with (go_at_call 49; refine (K.out _ HDW.out).mono ?_; rintro e w3 ⟨rfl, hb3⟩)
                        go_ret
                        exact ⟨iret HZ3.out.symm, HL.out _ (HBJ.out.trans ((HDW.out.trans (hb3.mono HDW.out.size)).mono HBJ.out.size))⟩
                      | false =>
                        have hz : rowApart nets ord tr i (k + 1) = true := by rw [HRow.out, hmt, Bool.and_false]; rfl
                        have HZ3 := Lib.hid hz
                        clear hz
                        go_wp2
                        go_still_tail 22, (by kernel_rfl)
                        change wpList _ _ _ _ _ wr.drew
                        generalize wr.drew = w2 at *
                        go_wp2_with (go_at_call 49; refine (K.out _ HDW.out).mono ?_; rintro e w3 ⟨rfl, hb3⟩)
                        go_roundw
                        case rel => exact ⟨k + 1, by omega, by go_num, HZ3, HBJ.out.trans ((HDW.out.trans (hb3.mono HDW.out.size)).mono HBJ.out.size)⟩
                        case measure => simp [intOf]; omega
                    · have h7' : (ti == tk) = false := by simp [h7]
                      have hz : rowApart nets ord tr i (k + 1) = true := by rw [HRow.out, decide_eq_false h7]; rfl
                      have HZ3 := Lib.hid hz
                      clear hz h7
                      go_wp2
                      go_quiet (fail)
                      go_wp2
                      go_roundw
                      case rel => exact ⟨k + 1, by omega, by go_num, HZ3, HBJ.out.trans (below_drewN (Below.refl _ _) _)⟩
                      case measure => simp [intOf]; omega
                  · obtain rfl : k = i := by omega
                    have hz : allApart nets ord tr (k + 1) = true := by unfold allApart; rw [hrel2.out, hrel3.out]; rfl
                    have HZ2 := Lib.hid hz
                    clear hz
                    go_wp2
                    go_roundw
                    case rel => exact ⟨k + 1, by omega, by go_num, HZ2, hbj⟩
                    case measure => simp [intOf]; omega
              · obtain rfl : i = tr.length := by omega
                have hz : res = 0 := by rw [HW.out, HLen.out, if_pos hrel2.out]
                have HY2 := Lib.hid hz
                clear hz
                go_wp2
                go_ret
                exact ⟨iret HY2.out.symm, HL.out _ hb2⟩
      · have hz : res = 2 := by rw [HZ.out, if_pos rfl]; unfold tracksErr; rw [if_neg hl]
        have HY := Lib.hid hz
        have hl' : ((tr.length : Int) != (nets.length : Int)) = true := by rw [bne_iff_ne]; omega
        clear hz hl
        go_wp2
        go_ret
        exact ⟨iret HY.out.symm, HL.out _ HB12.out⟩
    · have ho1 : (eo == 0) = false := by simp [ho]
      have ho2 : (eo != 0) = true := by simp [ho]
      have hz : res = eo := by rw [HZ.out, if_neg ho]
      have HY := Lib.hid hz
      clear hz ho
      go_wp2
      go_ret
      exact ⟨iret HY.out.symm, HL.out _ HB12.out⟩
  · have hn1 : (en == 0) = false := by simp [hn]
    have hn2 : (en != 0) = true := by simp [hn]
    have hz : res = en := by rw [HR.out, if_neg hn]
    have HY := Lib.hid hz
    clear hz hn
    go_wp2
    go_ret
    exact ⟨iret HY.out.symm, HL.out _ hb1⟩
end Go.Proofs.YtggcnnpklkmeoaaGreatDoor
