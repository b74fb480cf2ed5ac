import Derived.Test.YtggcnnpklkmeoaaGreatDoorWH
import Derived.Test.YtggcnnpklkmeoaaGreatDoorWA
import Derived.StillTailTactics
namespace Go.Proofs.YtggcnnpklkmeoaaGreatDoor
open Go.RowKit Go

theorem set_getD_self {l : List Int} {i : Nat} (h : i < l.length) : l.set i (l.getD i 0) = l := by
  refine List.ext_getElem? fun j => ?_
  rw [List.getElem?_set]
  split
  · rename_i e
    subst e
    rw [List.getD_eq_getElem?_getD, List.getElem?_eq_getElem h]
    simp
  · rfl

theorem OwnI.grown {w w' : World} {base g n : Nat} {xs : List Int} {row : Option Nat} (h : OwnI w base g n xs) (hg : w.grownBy w' row) (hne : some g ≠ row) : OwnI w' base g n xs :=
  World.ownsRow.kept h hg (.inr (by simpa [Value.ownBlock] using hne))

/-- The number in a cell, for measures. -/
def cellNat (w : World) (g i : Nat) : Nat := match w.cell? ⟨g, i, none⟩ with | some (.int _ z) => z.toNat | _ => 0

def trackM (n g i : Nat) (fv : Value) (w : World) : Nat := match fv with | .bool true => 0 | _ => n + 2 - cellNat w g i

theorem cellNat_own {w : World} {base g n : Nat} {xs : List Int} (h : OwnI w base g n xs) {i : Nat} (hi : i < xs.length) : cellNat w g i = (xs.getD i 0).toNat := by
  unfold cellNat; rw [h.at i hi]

theorem set_getD {l : List Int} {i : Nat} (h : i < l.length) (x : Int) : (l.set i x).getD i 0 = x := by
  rw [List.getD_eq_getElem?_getD, List.getElem?_set_self h]; rfl
theorem set_getD_ne {l : List Int} {i j : Nat} (h : j ≠ i) (x : Int) : (l.set i x).getD j 0 = l.getD j 0 := by
  rw [List.getD_eq_getElem?_getD, List.getD_eq_getElem?_getD, List.getElem?_set_ne (by omega)]

set_option maxHeartbeats 8000000 in
set_option maxRecDepth 100000 in
/-- Tracks of the reference of chapter 7. -/
theorem bTracks_any (p q : Option Addr) (ca cb : Nat) (nets : List (Int × List Int)) (ord : List Int) (w : World) (hx : NetsV w p nets) (ho : IntV w q ord) (hl1 : nets.length ≤ 1000) (hl2 : ord.length ≤ 1000) :
    Calls Tryz.prog 22 #[.slice p nets.length ca, .slice q ord.length cb] w fun e w' => ∃ u, e = .returned (.tuple #[u, .int .i64 (dcnt (tracksOf nets ord) nets.length : Nat)]) ∧ IntsAt w' u (tracksOf nets ord) ∧ Below w.heap.size w w' := by
  obtain ⟨i0, hInfo, hz0, hz1, hz2⟩ := info_parts intInfo
  have HInv := Lib.hid (TInv.all nets ord)
  have KE := Lib.hid (fun W (v : Value) (x : Int × List Int) (h : Below w.heap.size w W) (hv : NetV W v x) => bExtent_any v x q cb ord W hv (ho.below h))
  have KM := Lib.hid (fun W (v u : Value) (x y : Int × List Int) (h : Below w.heap.size w W) (hv : NetV W v x) (hu : NetV W u y) => bMeet_any v u x y q cb ord W hv hu (ho.below h))
  have HX := Lib.hid hx
  generalize hT : tracksOf nets ord = T
  have HT := Lib.hid hT
  clear hx ho hT
  go_enter Tryz.func22, Tryz.ntmps22
  go_wp2_with (at_make; refine wpList_make_full _ rfl _ _ 23 rfl w.heap.size 3 i0 (.int .i64 0) 1 Tryz.underlying23 hInfo hz0 hz1 _ _ _ _ nets.length rfl rfl (by first | rfl | simp) (by first | rfl | simp) ?b2 ?b3 (Nat.le_refl _) ?_)
  case b2 => rw [hz2]; omega
  case b3 => unfold maxLen; omega
  intro w0 hown0 hgrow0
  have hown0 := ownI_made hown0
  have hb0 : Below w.heap.size w w0 := (Below.refl _ _).grown hgrow0 (Nat.le_refl _) (fun k h => by cases h)
  have HB0 := Lib.hid hb0
  clear hgrow0 hb0
  have hS := hown0.lt.2
  have HInv2 := Lib.hid (fun (k i : Nat) (h : i ≤ nets.length) => TInv.row (HInv.out k) h)
  go_wp2
  go_loopw [7, 8] (fun dv pv wr => ∃ (k : Nat) (v : Value), k ≤ ord.length ∧ pv = .int .i64 k ∧ dv = v ∧ wr.ownsRow w0.heap.size 3 1 v (tracksTo nets ord k).2.length ((tracksTo nets ord k).2.map (Value.int .i64)) ∧ OwnI wr w.heap.size w.heap.size nets.length (tracksTo nets ord k).1 ∧ Below w.heap.size w wr ∧ w0.heap.size ≤ wr.heap.size) (fun _ pv _ => ord.length - (intOf pv).toNat)
  case atStart => exact ⟨0, _, Nat.zero_le _, rfl, rfl, World.ownsRow_nil _ _ _ _, hown0, HB0.out, Nat.le_refl _⟩
  case round =>
    obtain ⟨k, v, hk, rfl, hv, hdone, hout, hb, hsz⟩ := hrel
    replace hv := hv.symm
    subst hv
    by_cases h0 : k < ord.length
    · have hst0 : rowTo nets ord k (tracksTo nets ord k) 0 = tracksTo nets ord k := rfl
      have hstE : rowTo nets ord k (tracksTo nets ord k) nets.length = tracksTo nets ord (k + 1) := rfl
      have hstS : ∀ i, rowTo nets ord k (tracksTo nets ord k) (i + 1) = trackStep nets ord k (rowTo nets ord k (tracksTo nets ord k) i) i := fun i => rfl
      have hstI : ∀ i, i ≤ nets.length → TInv nets ord k i (rowTo nets ord k (tracksTo nets ord k) i) := HInv2.out k
      rw [← hst0] at hdone hout
      generalize rowTo nets ord k (tracksTo nets ord k) = st at *
      have HE := Lib.hid hstE
      have HS := Lib.hid hstS
      have HI := Lib.hid hstI
      have HD := Lib.hid hdone
      have HO := Lib.hid hout
      have HB := Lib.hid hb
      clear hst0 hstE hstS hstI hdone hout hb
      go_wp2
      go_loopw [7, 9] (fun dv iv wr => ∃ (i : Nat) (v : Value), i ≤ nets.length ∧ iv = .int .i64 i ∧ dv = v ∧ wr.ownsRow w0.heap.size 3 1 v (st i).2.length ((st i).2.map (Value.int .i64)) ∧ OwnI wr w.heap.size w.heap.size nets.length (st i).1 ∧ Below w.heap.size w wr ∧ w0.heap.size ≤ wr.heap.size) (fun _ iv _ => nets.length - (intOf iv).toNat)
      case atStart => exact ⟨0, _, Nat.zero_le _, rfl, rfl, HD.out, HO.out, HB.out, hsz⟩
      case round =>
        clear HD HO HB
        obtain ⟨i, v, hi, rfl, hv, hdone, hout, hb, hsz⟩ := hrel
        replace hv := hv.symm
        subst hv
        by_cases h1 : i < nets.length
        · obtain ⟨g, o, rfl, hg, hc1, q2, c2, hc2, hq⟩ := (HX.out.below hb).at (i := i) h1
          have hstep := HS.out i
          have hinv := HI.out i (by omega)
          generalize hsi : st i = s at *
          obtain ⟨out, done⟩ := s
          try simp only at hdone hout
          unfold trackStep at hstep
          try simp only at hstep
          have hdl : done.length ≤ 1001000 := by
            have h2 := hinv.cnt
            simp only at h2
            have h3 : k * nets.length ≤ 1000 * 1000 := Nat.mul_le_mul (by omega) hl1
            omega
          generalize hn : nets.getD i (0, []) = n at *
          obtain ⟨sh, cols⟩ := n
          simp only at hc1 hc2 hq hstep
          have K := Lib.hid (KE.out wr (.agg #[.int .i64 sh, .slice q2 cols.length c2]) (sh, cols) hb ⟨q2, c2, rfl, hq⟩)
          simp only at K
          generalize hlow : (extOf ord cols).1 = low at *
          generalize (extOf ord cols).2 = high at *
          have HN := Lib.hid hn
          have HStep := Lib.hid hstep
          have HInvI := Lib.hid hinv
          have HD := Lib.hid hdone
          have HO := Lib.hid hout
          have HB := Lib.hid hb
          have HLow := Lib.hid hlow
          have HQ := Lib.hid hq
          clear hstep hinv hdone hout hb hlow hq hsi hn
          by_cases h2 : low = k
          · have hd2 : (low != (k : Int)) = false := by rw [h2]; simp
            have hnew : st (i + 1) = (out.set i (freeOf nets ord out done i : Nat), done ++ [(i : Int)]) := by rw [HStep.out, if_pos h2]
            have HNew := Lib.hid hnew
            have hlow2 : (extOf ord (nets.getD i (0, [])).2).1 = (k : Int) := by rw [HN.out, HLow.out, h2]
            have HLow2 := Lib.hid hlow2
            clear hnew h2 hlow2
            go_wp2_with (go_at_call 17; refine K.out.mono ?_; rintro e w1 ⟨rfl, hb5⟩)
            have hlen : out.length = nets.length := HInvI.out.len
            have hz : out.getD i 0 = 0 := HInvI.out.zero i (HInvI.out.notin HLow2.out)
            have hself : out.set i ((0 : Nat) : Int) = out := by
              have := set_getD_self (l := out) (i := i) (by omega)
              rwa [hz] at this
            have hout1 : OwnI w1 w.heap.size w.heap.size nets.length (out.set i ((0 : Nat) : Int)) := by rw [hself]; exact HO.out.kept hb5
            have hdone1 := rowBelow HD.out hb5
            have hb1 : Below w.heap.size w w1 := HB.out.trans (hb5.mono HB.out.size)
            have hsz1 : w0.heap.size ≤ w1.heap.size := Nat.le_trans hsz hb5.size
            have HLt := Lib.hid (fun t h => busy_lt HInvI.out i t h)
            have HDone := Lib.hid HInvI.out.done
            have HNot := Lib.hid (HInvI.out.notin HLow2.out)
            have HLen := Lib.hid hlen
            clear hz hself hlen HD HO HB K HLow HLow2 HStep HInvI hb5 hc1 hc2
            go_loopw [12] (fun fv wr => ∃ (t : Nat) (b : Bool), fv = .bool b ∧ t ≤ done.length ∧ OwnI wr w.heap.size w.heap.size nets.length (out.set i (t : Int)) ∧ wr.ownsRow w0.heap.size 3 1 v done.length (done.map (Value.int .i64)) ∧ Below w.heap.size w wr ∧ w0.heap.size ≤ wr.heap.size ∧
                Hid (if b = true then t = freeOf nets ord out done i else freeFrom (fun t => busyTo nets ord out done i t done.length) t (done.length + 1 - t) = freeOf nets ord out done i)) (fun fv wr => trackM done.length w.heap.size i fv wr)
            case atStart => exact ⟨0, false, rfl, Nat.zero_le _, hout1, hdone1, hb1, hsz1, Lib.hid rfl⟩
            case round =>
              clear hout1 hdone1 hb1 hsz1
              obtain ⟨t, b, rfl, ht, hout, hdone, hb, hsz, hrel⟩ := hrel
              cases b with
              | true =>
                have hto : t = freeOf nets ord out done i := by have := hrel.out; rwa [if_pos rfl] at this
                have hnew : st (i + 1) = (out.set i (t : Int), done ++ [(i : Int)]) := by rw [hto]; exact HNew.out
                have HN2 := Lib.hid hnew
                have HB := Lib.hid hb
                have HO := Lib.hid hout
                clear hto hnew hrel hb hout
                go_wp2_with (at_builtin; refine wpList_append_own _ rfl _ _ 23 rfl w0.heap.size 3 i0 (.int .i64 0) 1 8 Tryz.underlying23 hInfo hz0 hz1 hz2 rfl (by decide) _ _ _ rfl (hdone.alloc _) ⟨wr.heap.size, 0, none⟩ 1 1 [.int .i64 (i : Int)] rfl rfl ?c1 ?c2 ?c3 ?c4 ?c5 ?_)
                all_goals try (first | rfl | (unfold maxLen; omega) | omega)
                intro v' w2 hown' hgrow _
                have hlt := (hdone.alloc (.cells #[.int .i64 (i : Int)] 3)).lt
                have hbel : Below w.heap.size w w2 := (HB.out.alloc HB.out.size _).grown hgrow (by have := HB.out.size; simp; omega) fun b hb => by have := (hlt b hb).1; omega
                have hown2 : w2.ownsRow w0.heap.size 3 1 v' (st (i + 1)).2.length ((st (i + 1)).2.map (Value.int .i64)) := by
                  rw [HN2.out]; simp only [List.length_append, List.map_append]; exact hown'
                have hout2 : OwnI w2 w.heap.size w.heap.size nets.length (st (i + 1)).1 := by
                  rw [HN2.out]
                  exact (HO.out.kept ((Below.refl _ _).alloc (Nat.le_refl _) _)).grown hgrow (by intro e; have := (hlt _ e.symm).1; omega)
                have hsz2 : w0.heap.size ≤ w2.heap.size := Nat.le_trans (by simp; omega) hgrow.size
                clear hown' hgrow hlt hdone
                go_wp2
                go_roundw
                case rel => exact ⟨i + 1, _, by omega, by go_num, rfl, hown2, hout2, hbel, hsz2⟩
                case measure => simp [intOf]; omega
              | false =>
                have hfr : freeFrom (fun t => busyTo nets ord out done i t done.length) t (done.length + 1 - t) = freeOf nets ord out done i := by have := hrel.out; rwa [if_neg (by decide)] at this
                have HFr := Lib.hid hfr
                obtain ⟨pd, cd, rfl, hivd, hcapd⟩ := IntV.of_owns hdone (by omega)
                have hmeas := cellNat_own hout (i := i) (by rw [List.length_set, HLen.out]; exact h1)
                rw [set_getD (by rw [HLen.out]; exact h1)] at hmeas
                have HMeas := Lib.hid (show cellNat wr w.heap.size i = t by rw [hmeas]; omega)
                clear hfr hrel hmeas
                go_wp2
                obtain ⟨wo, hwo⟩ : ∃ wo : World, wo = wr := ⟨_, rfl⟩
                rw [← hwo] at hb hout hdone hivd hsz HMeas
                have HB := Lib.hid hb
                have HO := Lib.hid hout
                have HD := Lib.hid hdone
                have HIV := Lib.hid hivd
                have HSz := Lib.hid hsz
                rw [← hwo]
                have HWO := Lib.hid hwo
                clear hwo hb hout hdone hivd hsz
                go_loopw [12, 13] (fun fv jv wj => ∃ (j : Nat) (b : Bool), j ≤ done.length ∧ jv = .int .i64 j ∧ fv = .bool b ∧ Hid (b = !busyTo nets ord out done i t j) ∧ Below wo.heap.size wo wj) (fun _ jv _ => done.length - (intOf jv).toNat)
                case atStart => exact ⟨0, true, Nat.zero_le _, rfl, rfl, Lib.hid rfl, Below.refl _ _⟩
                case round =>
                  obtain ⟨j, b, hj, rfl, rfl, hrel, hbj⟩ := hrel
                  by_cases h3 : j < done.length
                  · obtain ⟨gd, od, rfl, hgd, hcd⟩ := (HIV.out.below hbj).at (i := j) h3
                    have hdm := HDone.out _ (getD_mem_int h3)
                    have hne : done.getD j 0 ≠ (i : Int) := by intro e; exact HNot.out (by rw [← e]; exact getD_mem_int h3)
                    have hbs : busyTo nets ord out done i t (j + 1) = (busyTo nets ord out done i t j || (decide (out.getD (done.getD j 0).toNat 0 = t) && meetB ord (netAt nets (done.getD j 0)) (nets.getD i (0, [])).2)) := rfl
                    obtain ⟨dn, hdn⟩ : ∃ dn : Nat, done.getD j 0 = (dn : Int) := ⟨(done.getD j 0).toNat, by omega⟩
                    have hnat : netAt nets (dn : Int) = (nets.getD dn (0, [])).2 := by unfold netAt; simp
                    rw [hdn, hnat, HN.out, show ((dn : Int)).toNat = dn by omega] at hbs
                    rw [hdn] at hdm hne hcd
                    have hdl : dn < nets.length := by omega
                    have hdi : dn ≠ i := by omega
                    have hwr : Below w.heap.size w wr := HB.out.trans (hbj.mono HB.out.size)
                    have hOr := HO.out.kept hbj
                    have hcO := hOr.at dn (by rw [List.length_set, HLen.out]; exact hdl)
                    have hcI := hOr.at i (by rw [List.length_set, HLen.out]; exact h1)
                    rw [set_getD_ne hdi] at hcO
                    rw [set_getD (by rw [HLen.out]; exact h1)] at hcI
                    have hSl : w.heap.size < wr.heap.size := Nat.lt_of_lt_of_le hS (Nat.le_trans HSz.out hbj.size)
                    obtain ⟨gn, on, hgo, hgn, ha1, qa, capa, ha2, hqa⟩ := (HX.out.below hwr).at (i := i) h1
                    injection hgo with hgo; injection hgo with e1 e2 e3
                    subst e1; subst e2
                    obtain ⟨gn', on', hgo, hgn', hb1, qb, capb, hb2, hqb⟩ := (HX.out.below hwr).at (i := dn) hdl
                    injection hgo with hgo; injection hgo with e1 e2 e3
                    subst e1; subst e2
                    rw [HN.out] at ha1 ha2 hqa
                    simp only at ha1 ha2 hqa
                    generalize nets.getD dn (0, []) = nb at *
                    obtain ⟨sb, lb⟩ := nb
                    simp only at hb1 hb2 hqb hbs
                    have KM2 := Lib.hid (fun W (h : Below wr.heap.size wr W) => KM.out W (.agg #[.int .i64 sb, .slice qb lb.length capb]) (.agg #[.int .i64 sh, .slice qa cols.length capa]) (sb, lb) (sh, cols) (hwr.trans (h.mono hwr.size)) ⟨qb, capb, rfl, hqb.below h⟩ ⟨qa, capa, rfl, hqa.below h⟩)
                    simp only at KM2
                    generalize out.getD dn 0 = ot at *
                    generalize done.getD j 0 = dj at *
                    have HBs := Lib.hid hbs
                    have HBJ := Lib.hid hbj
                    have HDW := Lib.hid ((Below.refl _ _).drew : Below wr.heap.size wr wr.drew)
                    clear hbs hbj hwr hOr hqa hqb hdm hne hnat hdn
                    by_cases h7 : ot = (t : Int)
                    · have h7' : (ot == (t : Int)) = true := by simp [h7]
                      have H7 := Lib.hid h7
                      clear h7
                      cases hmt : meetB ord lb cols with
                      | true =>
                        have hz : false = !busyTo nets ord out done i t (j + 1) := by rw [HBs.out, hmt, decide_eq_true H7.out, Bool.and_self, Bool.or_true]; rfl
                        have HZ := Lib.hid hz
                        clear hz
                        go_wp2
                        go_still_tail 25, (by kernel_rfl)
                        change wpList _ _ _ _ _ wr.drew
                        generalize wr.drew = w2 at *
                        go_wp2_with (go_at_call 49; refine (KM2.out _ HDW.out).mono ?_; rintro e w3 ⟨rfl, hb3⟩)
                        go_roundw
                        case rel => exact ⟨j + 1, false, by omega, by go_num, rfl, HZ, HBJ.out.trans ((HDW.out.trans (hb3.mono HDW.out.size)).mono HBJ.out.size)⟩
                        case measure => simp [intOf]; omega
                      | false =>
                        have hz : b = !busyTo nets ord out done i t (j + 1) := by rw [HBs.out, hmt, Bool.and_false, Bool.or_false]; exact hrel.out
                        have HZ := Lib.hid hz
                        clear hz
                        go_wp2
                        go_still_tail 25, (by kernel_rfl)
                        change wpList _ _ _ _ _ wr.drew
                        generalize wr.drew = w2 at *
                        go_wp2_with (go_at_call 49; refine (KM2.out _ HDW.out).mono ?_; rintro e w3 ⟨rfl, hb3⟩)
                        go_roundw
                        case rel => exact ⟨j + 1, b, by omega, by go_num, rfl, HZ, HBJ.out.trans ((HDW.out.trans (hb3.mono HDW.out.size)).mono HBJ.out.size)⟩
                        case measure => simp [intOf]; omega
                    · have h7' : (ot == (t : Int)) = false := by simp [h7]
                      have hz : b = !busyTo nets ord out done i t (j + 1) := by rw [HBs.out, decide_eq_false h7, Bool.false_and, Bool.or_false]; exact hrel.out
                      have HZ := Lib.hid hz
                      clear hz h7
                      go_wp2
                      go_quiet (fail)
                      go_wp2
                      go_roundw
                      case rel => exact ⟨j + 1, b, by omega, by go_num, rfl, HZ, HBJ.out.trans (below_drewN (Below.refl _ _) _)⟩
                      case measure => simp [intOf]; omega
                  · obtain rfl : j = done.length := by omega
                    have hwr : Below w.heap.size w wr := HB.out.trans (hbj.mono HB.out.size)
                    have hOr := HO.out.kept hbj
                    have hDr := rowBelow HD.out hbj
                    have hszr : w0.heap.size ≤ wr.heap.size := Nat.le_trans HSz.out hbj.size
                    have hcI := hOr.at i (by rw [List.length_set, HLen.out]; exact h1)
                    have hfI := hOr.free i
                    rw [set_getD (by rw [HLen.out]; exact h1)] at hcI
                    have hmold : trackM done.length w.heap.size i (.bool false) wo = done.length + 2 - t := by
                      show done.length + 2 - cellNat wo w.heap.size i = _
                      rw [HMeas.out]
                    have HMold := Lib.hid hmold
                    have hbt : b = !busyTo nets ord out done i t done.length := hrel.out
                    have HBt := Lib.hid hbt
                    have HWr := Lib.hid hwr
                    have HOr := Lib.hid hOr
                    have HDr := Lib.hid hDr
                    clear hmold hbt hrel hwr hOr hDr
                    cases b with
                    | true =>
                      have hfree : busyTo nets ord out done i t done.length = false := by
                        have hq := HBt.out
                        cases h : busyTo nets ord out done i t done.length with
                        | false => rfl
                        | true => rw [h] at hq; cases hq
                      have hto : t = freeOf nets ord out done i := by
                        rw [← HFr.out, show done.length + 1 - t = (done.length - t) + 1 by omega]
                        show t = if busyTo nets ord out done i t done.length = true then _ else t
                        rw [hfree]; rfl
                      have HTo := Lib.hid (show (if true = true then t = freeOf nets ord out done i else freeFrom (fun t => busyTo nets ord out done i t done.length) t (done.length + 1 - t) = freeOf nets ord out done i) by rw [if_pos rfl]; exact hto)
                      clear hfree hto
                      go_wp2
                      go_roundw
                      case rel => exact ⟨t, true, rfl, ht, HOr.out, HDr.out, HWr.out, hszr, HTo⟩
                      case measure => rw [← HWO.out, HMold.out]; show 0 < _; omega
                    | false =>
                      have hbusy : busyTo nets ord out done i t done.length = true := by
                        have hq := HBt.out
                        cases h : busyTo nets ord out done i t done.length with
                        | true => rfl
                        | false => rw [h] at hq; cases hq
                      have htl := HLt.out t hbusy
                      have hnext : freeFrom (fun t => busyTo nets ord out done i t done.length) (t + 1) (done.length + 1 - (t + 1)) = freeOf nets ord out done i := by
                        rw [← HFr.out, show done.length + 1 - t = (done.length - t) + 1 by omega, show done.length + 1 - (t + 1) = done.length - t by omega]
                        show _ = if busyTo nets ord out done i t done.length = true then _ else t
                        rw [if_pos hbusy]
                      have HNx := Lib.hid (show (if false = true then t + 1 = freeOf nets ord out done i else freeFrom (fun t => busyTo nets ord out done i t done.length) (t + 1) (done.length + 1 - (t + 1)) = freeOf nets ord out done i) by rw [if_neg (by decide)]; exact hnext)
                      have hst := HOr.out.store i ((t : Int) + 1)
                      rw [List.set_set] at hst
                      have hst2 := rowStore HDr.out hS i (.int .i64 ((t : Int) + 1))
                      have hst3 : Below w.heap.size w (wr.setCell ⟨w.heap.size, i, none⟩ (.int .i64 ((t : Int) + 1))) := HWr.out.setCell (Nat.le_refl _) _
                      have HSt := Lib.hid hst
                      have HSt2 := Lib.hid hst2
                      clear hbusy hnext hst hst2
                      have hw1 : IntKind.i64.wrap ((t : Int) + 1) = (t : Int) + 1 := IntWalk.i64_in _ (by omega)
                      go_wp2
                      go_roundw
                      case rel => exact ⟨t + 1, false, rfl, by omega, HSt.out, HSt2.out, hst3, by simp [World.setCell]; omega, HNx⟩
                      case measure =>
                        rw [← HWO.out, HMold.out]
                        show done.length + 2 - cellNat (wr.setCell ⟨w.heap.size, i, none⟩ (.int .i64 ((t : Int) + 1))) w.heap.size i < _
                        rw [cellNat_own HSt.out (by rw [List.length_set, HLen.out]; exact h1), set_getD (by rw [HLen.out]; exact h1)]
                        omega
          · have hd2 : (low != (k : Int)) = true := by rw [bne_iff_ne]; exact h2
            have hnew : st (i + 1) = (out, done) := by rw [HStep.out, if_neg h2]
            have HNew := Lib.hid hnew
            clear hnew h2
            go_wp2_with (go_at_call 17; refine K.out.mono ?_; rintro e w1 ⟨rfl, hb5⟩)
            go_roundw
            case rel => exact ⟨i + 1, _, by omega, by go_num, rfl, by rw [HNew.out]; exact rowBelow HD.out hb5, by rw [HNew.out]; exact HO.out.kept hb5, HB.out.trans (hb5.mono HB.out.size), Nat.le_trans hsz hb5.size⟩
            case measure => simp [intOf]; omega
        · obtain rfl : i = nets.length := by omega
          rw [HE.out] at hdone hout
          have HD := Lib.hid hdone
          have HO := Lib.hid hout
          clear hdone hout
          go_wp2
          go_roundw
          case rel => exact ⟨k + 1, _, by omega, by go_num, rfl, HD.out, HO.out, hb, hsz⟩
          case measure => simp [intOf]; omega
    · obtain rfl : k = ord.length := by omega
      have hlen := (HInv.out ord.length).len
      have hT2 : (tracksTo nets ord ord.length).1 = T := HT.out
      rw [hT2] at hout hlen
      clear hT2
      have hiv := hout.intV (by omega)
      have KC := Lib.hid (bCount_any (some ⟨w.heap.size, 0, none⟩) nets.length T wr hiv (by omega))
      rw [hlen] at KC
      have HIV := Lib.hid hiv
      have HB := Lib.hid hb
      have HLen := Lib.hid hlen
      clear hiv hb hlen hout hdone
      go_wp2_with (go_at_call 50; refine KC.out.mono ?_; rintro e w1 ⟨rfl, nd, rfl⟩)
      go_ret2
      exact ⟨.slice (some ⟨w.heap.size, 0, none⟩) nets.length nets.length, rfl, ⟨some ⟨w.heap.size, 0, none⟩, nets.length, by rw [HLen.out], HIV.out.drewN nd, by rw [HLen.out]; exact Nat.le_refl _⟩, below_drewN HB.out _⟩
end Go.Proofs.YtggcnnpklkmeoaaGreatDoor
