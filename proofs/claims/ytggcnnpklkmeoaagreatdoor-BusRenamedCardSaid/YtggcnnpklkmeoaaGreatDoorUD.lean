import Derived.Test.YtggcnnpklkmeoaaGreatDoorUC
section
namespace Go.Proofs.YtggcnnpklkmeoaaGreatDoor
open Go.RowKit Go

/-- CheckClique's error. -/
def claimErr (cols : Int) (nets : List (Int × List Int)) (ord cl : List Int) : Int := if rowErr cols nets ord = 0 then cliqueOf nets ord cl else rowErr cols nets ord

set_option maxHeartbeats 4000000 in
set_option maxRecDepth 100000 in
/-- CheckClique. -/
theorem uCheckClique_any (p q r : Option Addr) (ca cb cc : Nat) (nets : List (Int × List Int)) (ord cl : List Int) (cols : Int) (w : World) (hx : NetsV w p nets) (ho : IntV w q ord) (hc : IntV w r cl) (hcap : cl.length ≤ cc) :
    Calls Tryz.prog 26 #[.slice p nets.length ca, .int .i64 cols, .slice q ord.length cb, .slice r cl.length cc] w fun e w' => e = .returned (.int .i64 (claimErr cols nets ord cl)) ∧ Below w.heap.size w w' := by
  have hcm := hc.1
  have KR := Lib.hid (uReadRow_any p q ca cb nets ord cols w hx ho)
  have KD := Lib.hid (fun (n : Nat) (hn : n ≤ 1000000) W (h : Below w.heap.size w W) => uDiff_any r cc cl n W (hc.below h) hn)
  have HC := Lib.hid hc
  have hok := fun h => rowOk_of (cols := cols) (nets := nets) (ord := ord) h
  have hre : claimErr cols nets ord cl = if rowErr cols nets ord = 0 then cliqueOf nets ord cl else rowErr cols nets ord := rfl
  generalize claimErr cols nets ord cl = res at *
  generalize rowErr cols nets ord = re at *
  clear hx ho hc
  by_cases c : re = 0
  · have HOk := Lib.hid (hok c)
    have hmo := (hok c).most
    rw [if_pos c] at hre
    have hcq : cliqueOf nets ord cl = if orderFrom nets.length cl 0 cl.length = 0 then (if allMeet nets ord cl cl.length = true then 0 else 20) else orderFrom nets.length cl 0 cl.length := rfl
    rw [hcq] at hre
    have KD2 := Lib.hid (KD.out nets.length (by omega))
    have hof := fun (h : orderFrom (nets.length : Int) cl 0 cl.length = 0) => orderFrom_ok (cols := nets.length) (ord := cl) cl.length 0 (by omega) h (by simp) (by simp)
    subst c
    generalize orderFrom (nets.length : Int) cl 0 cl.length = oe at *
    have HRE := Lib.hid hre
    clear hre hcq KD hok
    by_cases c2 : oe = 0
    · have hrng := Lib.hid (hof c2).1
      have hz : res = if allMeet nets ord cl cl.length = true then 0 else 20 := by rw [HRE.out, if_pos c2]
      have HZ := Lib.hid hz
      subst c2
      clear hz hof HRE
      go_enter Tryz.func26, Tryz.ntmps26
      go_upto_region 4 with (go_at_call 43; (with_reducible refine KR.out.mono ?_); rintro e w1 ⟨pv, rfl, hpv, hb⟩; obtain ⟨g, rfl, hrow⟩ := hpv rfl)
      have HRow := Lib.hid hrow
      have HB1 := Lib.hid hb
      clear hpv hrow
      go_upto_region 7 with (go_at_call 53; (with_reducible refine (KD2.out _ ?hb).mono ?_); (case hb => assumption); rintro e w2 ⟨rfl, hb2⟩)
      have HW := Lib.hid (HB1.out.trans (hb2.mono HB1.out.size))
      have hcl2 := HC.out.below HW.out
      obtain ⟨x, ps, k1, k2, k3, k4⟩ := HRow.out.below hb2
      have HK := Lib.hid (fun W (h : Below w2.heap.size w2 W) => (⟨(h.cell (p := ⟨g, 99, none⟩) k1.lt).trans ((k1.cell 99).trans (rowCells_ext k2)), k4.below h k4.lt⟩ :
        W.cell? ⟨g, 99, none⟩ = some (.slice (some ⟨x, 0, none⟩) nets.length nets.length) ∧ BoxAt W x 40 (pcells (extsOf nets ord))))
      have HCL := Lib.hid hcl2
      clear hb hb2 k1 k2 k3 k4 hcl2
      go_wp2
      go_loopw [35] (fun ii wr => ∃ (i : Nat), i ≤ cl.length ∧ ii = .int .i64 i ∧ Hid (allMeet nets ord cl i = true) ∧ Below w2.heap.size w2 wr) (fun ii _ => cl.length - (intOf ii).toNat)
      case atStart => exact ⟨0, Nat.zero_le _, rfl, Lib.hid rfl, Below.refl _ _⟩
      case round =>
        obtain ⟨i, hi, rfl, hrel2, hb⟩ := hrel
        by_cases h0 : i < cl.length
        · obtain ⟨gc, oc, rfl, hgc, hci⟩ := (HCL.out.below hb).at (i := i) h0
          have hi1 := hrng.out _ (getD_mem_int h0)
          have HI := Lib.hid hi1
          have HB := Lib.hid hb
          generalize hcl : cl.getD i 0 = ci at *
          have HCI := Lib.hid hcl
          have hic : i ≤ cc := by omega
          clear hb hi1 hcl
          go_wp2
          go_loopw [44] (fun ji wj => ∃ (k : Nat), k ≤ i ∧ ji = .int .i64 k ∧ Hid (rowMeet nets ord cl i k = true) ∧ Below w2.heap.size w2 wj) (fun ji _ => i - (intOf ji).toNat)
          case atStart => exact ⟨0, Nat.zero_le _, rfl, Lib.hid rfl, HB.out⟩
          case round =>
            obtain ⟨k, hk2, rfl, hrel3, hbj⟩ := hrel
            by_cases h6 : k < i
            · obtain ⟨gc', oc', hgo, hg', hck⟩ := (HCL.out.below hbj).at (i := k) (by omega)
              injection hgo with hgo; injection hgo with e1 e2 e3
              subst e1; subst e2
              obtain ⟨kc, kb⟩ := HK.out _ hbj
              have hi1 := HI.out
              have hk1 := hrng.out _ (getD_mem_int (l := cl) (j := k) (by omega))
              have hrow : rowMeet nets ord cl i (k + 1) = meetB ord (netAt nets (cl.getD i 0)) (netAt nets (cl.getD k 0)) := by
                show (rowMeet nets ord cl i k && _) = _
                rw [hrel3.out, Bool.true_and]
              have hfalse : rowMeet nets ord cl i (k + 1) = false → res = 20 := by
                intro h
                rw [HZ.out, allMeet_false (rowMeet_false h h6) h0]; rfl
              rw [HCI.out] at hrow
              generalize cl.getD k 0 = ck at *
              obtain ⟨a, rfl⟩ : ∃ a : Nat, ci = a := ⟨ci.toNat, by omega⟩
              obtain ⟨b, rfl⟩ : ∃ b : Nat, ck = b := ⟨ck.toNat, by omega⟩
              have hal : a < nets.length := by omega
              have hbl : b < nets.length := by omega
              rw [netAt_nat, netAt_nat, meet_exts HOk.out.ok.ord (HOk.out.ok.cols a hal) (HOk.out.ok.cols b hbl)] at hrow
              have ea0 := kb.cell (a * 2)
              have ea1 := kb.cell (a * 2 + 1)
              have eb0 := kb.cell (b * 2)
              have eb1 := kb.cell (b * 2 + 1)
              rw [pcells_fst (by rw [extsOf_len]; exact hal), extsOf_get nets ord hal] at ea0
              rw [pcells_snd (by rw [extsOf_len]; exact hal), extsOf_get nets ord hal] at ea1
              rw [pcells_fst (by rw [extsOf_len]; exact hbl), extsOf_get nets ord hbl] at eb0
              rw [pcells_snd (by rw [extsOf_len]; exact hbl), extsOf_get nets ord hbl] at eb1
              have hal' : (a : Int) < nets.length := by omega
              have hbl' : (b : Int) < nets.length := by omega
              generalize extOf ord (nets.getD a (0, [])).2 = la at *
              generalize extOf ord (nets.getD b (0, [])).2 = lb at *
              obtain ⟨alo, ahi⟩ := la
              obtain ⟨blo, bhi⟩ := lb
              simp only at ea0 ea1 eb0 eb1 hrow
              have K := Lib.hid (fun W => uMeet_any alo ahi blo bhi W)
              generalize (decide (alo ≤ bhi) && decide (blo ≤ ahi)) = mt at *
              have HRow := Lib.hid hrow
              have HFalse := Lib.hid hfalse
              have HBJ := Lib.hid hbj
              have HDW := Lib.hid ((Below.refl _ _).drew : Below wr.heap.size wr wr.drew)
              clear hrow hfalse hbj kb hi1 hk1
              cases mt with
              | false =>
                have hz : res = 20 := HFalse.out HRow.out
                have HZ3 := Lib.hid hz
                clear hz
                go_wp2
                go_still_tail 14, (by kernel_rfl)
                change wpList _ _ _ _ _ wr.drew
                generalize wr.drew = w4 at *
                go_wp2_with (go_at_call 54; (with_reducible refine (K.out _).mono ?_); rintro e w3 ⟨rfl, hb3⟩)
                go_ret
                exact ⟨iret HZ3.out.symm, HW.out.trans ((HBJ.out.trans ((HDW.out.trans (hb3.mono HDW.out.size)).mono HBJ.out.size)).mono HW.out.size)⟩
              | true =>
                have HZ3 := Lib.hid HRow.out
                go_wp2
                go_still_tail 14, (by kernel_rfl)
                change wpList _ _ _ _ _ wr.drew
                generalize wr.drew = w4 at *
                go_wp2_with (go_at_call 54; (with_reducible refine (K.out _).mono ?_); rintro e w3 ⟨rfl, hb3⟩)
                go_roundw
                case rel => exact ⟨k + 1, by omega, by go_num, HZ3, HBJ.out.trans ((HDW.out.trans (hb3.mono HDW.out.size)).mono HBJ.out.size)⟩
                case measure => simp [intOf]; omega
            · obtain rfl : k = i := by omega
              have hz : allMeet nets ord cl (k + 1) = true := by unfold allMeet; rw [hrel2.out, hrel3.out]; rfl
              have HZ2 := Lib.hid hz
              clear hz
              go_wp2
              go_roundw
              case rel => exact ⟨k + 1, by omega, by go_num, HZ2, hbj⟩
              case measure => simp [intOf]; omega
        · obtain rfl : i = cl.length := by omega
          have hz : res = 0 := by rw [HZ.out, if_pos hrel2.out]
          have HY := Lib.hid hz
          clear hz
          go_wp2
          go_ret
          exact ⟨iret HY.out.symm, HW.out.trans (hb.mono HW.out.size)⟩
    · have hne : (oe != 0) = true := by simpa using c2
      have hz : res = oe := by rw [HRE.out, if_neg c2]
      subst hz
      clear c2 hof HRE
      go_enter Tryz.func26, Tryz.ntmps26
      go_wp2_with (first
        | (go_at_call 43; (with_reducible refine KR.out.mono ?_); rintro e w1 ⟨pv, rfl, hpv, hb⟩; obtain ⟨g, rfl, hrow⟩ := hpv rfl)
        | (go_at_call 53; (with_reducible refine (KD2.out _ ?hb).mono ?_); (case hb => assumption); rintro e w2 ⟨rfl, hb2⟩))
      go_ret
      exact ⟨rfl, hb.trans (hb2.mono hb.size)⟩
  · have hne : (re != 0) = true := by simpa using c
    have hz : res = re := by rw [hre, if_neg c]
    subst hz
    clear c KD hok hre
    go_enter Tryz.func26, Tryz.ntmps26
    go_wp2_with (go_at_call 43; (with_reducible refine KR.out.mono ?_); rintro e w1 ⟨pv, rfl, hpv, hb⟩; clear hpv)
    go_ret
    exact ⟨rfl, hb⟩
end Go.Proofs.YtggcnnpklkmeoaaGreatDoor
end

section
namespace Go.Proofs.YtggcnnpklkmeoaaGreatDoor
open Go.RowKit Go

theorem layout_row (nets : List (Int × List Int)) (cols : Int) (ord tr : List Int) : layoutOf nets cols ord tr = if rowErr cols nets ord = 0 then tracksErr nets ord tr else rowErr cols nets ord := by
  unfold layoutOf rowErr
  by_cases h1 : netsOf cols nets = 0
  · rw [if_pos h1, if_pos h1]
  · rw [if_neg h1, if_neg h1, if_neg h1]

theorem tret {v : Value} {a b : Int} (h : a = b) : Ending.returned (.tuple #[v, .int .i64 b]) = Ending.returned (.tuple #[v, .int .i64 a]) := by rw [h]

theorem trackOk_iff {t : Int} : trackOk t = true ↔ 0 ≤ t ∧ t < 64 := by unfold trackOk; rw [Bool.and_eq_true, decide_eq_true_iff, decide_eq_true_iff]

set_option maxHeartbeats 8000000 in
set_option maxRecDepth 100000 in
/-- readLayout. -/
theorem uReadLayout_any (p q r : Option Addr) (ca cb cc : Nat) (nets : List (Int × List Int)) (ord tr : List Int) (cols : Int) (w : World) (hx : NetsV w p nets) (ho : IntV w q ord) (ht : IntV w r tr) :
    Calls Tryz.prog 52 #[.slice p nets.length ca, .int .i64 cols, .agg #[.slice q ord.length cb, .slice r tr.length cc]] w fun e w' => ∃ pv, e = .returned (.tuple #[pv, .int .i64 (layoutOf nets cols ord tr)]) ∧
      (layoutOf nets cols ord tr = 0 → ∃ g, pv = .pointer (some ⟨g, 0, none⟩) ∧ RowAt w' g p q ca cb nets ord) ∧ Below w.heap.size w w' := by
  have htm := ht.1
  have HX := Lib.hid hx
  have HO := Lib.hid ho
  have HT := Lib.hid ht
  have hok := fun h => rowOk_of (cols := cols) (nets := nets) (ord := ord) h
  have hre := layout_row nets cols ord tr
  have hte : tracksErr nets ord tr = if tr.length = nets.length then (if tr.all trackOk = true then (if allApart nets ord tr nets.length = true then 0 else 30) else 3) else 2 := rfl
  have KR := Lib.hid (fun W (h : Below w.heap.size w W) => uReadRow_any p q ca cb nets ord cols W (hx.below h) (ho.below h))
  generalize layoutOf nets cols ord tr = res at *
  generalize rowErr cols nets ord = re at *
  clear hx ho ht
  go_enter Tryz.func52, Tryz.ntmps52
  go_upto_region 1 with (fail)
  have B0 : BoxAt (w.alloc (.cells #[.slice q ord.length cb, .slice r tr.length cc] 49)) w.heap.size 49 [.slice q ord.length cb, .slice r tr.length cc] := BoxAt.made _ _ _
  have G0 : Below w.heap.size w (w.alloc (.cells #[.slice q ord.length cb, .slice r tr.length cc] 49)) := (Below.refl _ _).alloc (Nat.le_refl _) _
  generalize w.alloc (.cells #[.slice q ord.length cb, .slice r tr.length cc] 49) = w0 at *
  have d0 := B0.cell 0
  simp only [List.getElem?_cons_zero] at d0
  have HG0 := Lib.hid G0
  have HBx := Lib.hid B0
  clear G0 B0
  go_upto_region 2 with (go_at_call 43; (with_reducible refine (KR.out _ HG0.out).mono ?_); rintro e w1 ⟨pv, rfl, hpv, hb⟩)
  have HW := Lib.hid (HG0.out.trans (hb.mono HG0.out.size))
  have hbx := HBx.out.below hb HBx.out.lt
  have d1 := hbx.cell 1
  simp only [List.getElem?_cons_zero, List.getElem?_cons_succ] at d1
  have HB1 := Lib.hid hbx
  clear d0 hb hbx KR
  by_cases c : re = 0
  · obtain ⟨g, rfl, hrow⟩ := hpv c
    have HOk := Lib.hid (hok c)
    rw [if_pos c, hte] at hre
    have HRE := Lib.hid hre
    have HRow := Lib.hid hrow
    subst c
    clear hpv hrow hok hre hte
    by_cases c2 : tr.length = nets.length
    · have hd2 : ((tr.length : Int) != (nets.length : Int)) = false := by rw [c2]; simp
      have hz : res = if tr.all trackOk = true then (if allApart nets ord tr nets.length = true then 0 else 30) else 3 := by rw [HRE.out, if_pos c2]
      have HZ := Lib.hid hz
      have HLen := Lib.hid c2
      clear hz c2 HRE
      go_upto_region 7 with (fail)
      go_loop [35] (fun ii => ∃ (k : Nat), k ≤ tr.length ∧ ii = .int .i64 k ∧ Hid ((tr.take k).all trackOk = true)) (fun ii => tr.length - (intOf ii).toNat)
      case atStart => exact ⟨0, Nat.zero_le _, rfl, Lib.hid rfl⟩
      case round =>
        obtain ⟨k, hk, rfl, hrel⟩ := hrel
        by_cases h0 : k < tr.length
        · obtain ⟨gt, ot, rfl, hgt, hct⟩ := (HT.out.below HW.out).at (i := k) h0
          have hgood : trackOk (tr.getD k 0) = true → (tr.take (k + 1)).all trackOk = true := fun h => allT_succ h0 hrel.out h
          have hbad : trackOk (tr.getD k 0) = false → res = 3 := fun h => by rw [HZ.out, if_neg (by rw [allT_bad h0 h]; decide)]
          generalize tr.getD k 0 = y at *
          have HG := Lib.hid hgood
          have HBd := Lib.hid hbad
          clear hgood hbad hrel
          by_cases h1 : y < 0
          · have hz : res = 3 := HBd.out (by cases h : trackOk y with | false => rfl | true => rw [trackOk_iff] at h; omega)
            have HY := Lib.hid hz
            clear hz
            go_wp2
            go_ret2
            exact ⟨_, tret HY.out, fun h => by have := HY.out; omega, HW.out⟩
          by_cases h2 : 64 ≤ y
          · have hz : res = 3 := HBd.out (by cases h : trackOk y with | false => rfl | true => rw [trackOk_iff] at h; omega)
            have HY := Lib.hid hz
            clear hz
            go_wp2
            go_ret2
            exact ⟨_, tret HY.out, fun h => by have := HY.out; omega, HW.out⟩
          have hz := HG.out (trackOk_iff.2 (by omega))
          have HY := Lib.hid hz
          clear hz
          go_wp2
          go_round
          case rel => exact ⟨k + 1, by omega, by go_num, HY⟩
          case measure => simp [intOf]; omega
        · obtain rfl : k = tr.length := by omega
          have hall : tr.all trackOk = true := by have := hrel.out; rwa [List.take_length] at this
          have hz : res = if allApart nets ord tr nets.length = true then 0 else 30 := by rw [HZ.out, if_pos hall]
          have HY := Lib.hid hz
          clear hz hall hrel h0 HZ
          have HK := Lib.hid (fun W (h : Below w1.heap.size w1 W) => (⟨HB1.out.below h HB1.out.lt, HRow.out.below h, HT.out.below (HW.out.trans (h.mono HW.out.size)), HW.out.trans (h.mono HW.out.size)⟩ :
            BoxAt W w.heap.size 49 [.slice q ord.length cb, .slice r tr.length cc] ∧ RowAt W g p q ca cb nets ord ∧ IntV W r tr ∧ Below w.heap.size w W))
          go_upto_region 13 with (fail)
          go_loopw [49] (fun ii wr => ∃ (i : Nat), i ≤ tr.length ∧ ii = .int .i64 i ∧ Hid (allApart nets ord tr i = true) ∧ Below w1.heap.size w1 wr) (fun ii _ => tr.length - (intOf ii).toNat)
          case atStart => exact ⟨0, Nat.zero_le _, rfl, Lib.hid rfl, Below.refl _ _⟩
          case round =>
            clear d1
            obtain ⟨i, hi, rfl, hrel2, hb⟩ := hrel
            by_cases h3 : i < tr.length
            · obtain ⟨gt, ot, rfl, hgt, hti⟩ := (HK.out wr hb).2.2.1.at (i := i) h3
              generalize hgi : tr.getD i 0 = ti at *
              have HTI := Lib.hid hgi
              have HB := Lib.hid hb
              clear hgi hb
              go_wp2
              go_loopw [55] (fun ji wj => ∃ (k : Nat), k ≤ i ∧ ji = .int .i64 k ∧ Hid (rowApart nets ord tr i k = true) ∧ Below w1.heap.size w1 wj) (fun ji _ => i - (intOf ji).toNat)
              case atStart => exact ⟨0, Nat.zero_le _, rfl, Lib.hid rfl, HB.out⟩
              case round =>
                obtain ⟨k, hk2, rfl, hrel3, hbj⟩ := hrel
                obtain ⟨hbx, ⟨x, ps, k1, k2, k3, kb⟩, hivt, hbw⟩ := HK.out wr hbj
                by_cases h6 : k < i
                · obtain ⟨gt', ot', hgo, hgt', htk⟩ := hivt.at (i := k) (by omega)
                  injection hgo with hgo; injection hgo with e1 e2 e3
                  subst e1; subst e2
                  have d1 := hbx.cell 1
                  simp only [List.getElem?_cons_zero, List.getElem?_cons_succ] at d1
                  have kc := k1.cell 99
                  rw [rowCells_ext k2] at kc
                  have hal : i < nets.length := by rw [← HLen.out]; exact h3
                  have hbl : k < nets.length := by omega
                  have hrow : rowApart nets ord tr i (k + 1) = !(decide (tr.getD i 0 = tr.getD k 0) && meetB ord (nets.getD i (0, [])).2 (nets.getD k (0, [])).2) := by
                    show (rowApart nets ord tr i k && _) = _
                    rw [hrel3.out, Bool.true_and]
                  have hfalse : rowApart nets ord tr i (k + 1) = false → res = 30 := by
                    intro h
                    rw [HY.out, allApart_false (rowApart_false h h6) hal]; rfl
                  rw [HTI.out, meet_exts HOk.out.ok.ord (HOk.out.ok.cols i hal) (HOk.out.ok.cols k hbl)] at hrow
                  have ea0 := kb.cell (i * 2)
                  have ea1 := kb.cell (i * 2 + 1)
                  have eb0 := kb.cell (k * 2)
                  have eb1 := kb.cell (k * 2 + 1)
                  rw [pcells_fst (by rw [extsOf_len]; exact hal), extsOf_get nets ord hal] at ea0
                  rw [pcells_snd (by rw [extsOf_len]; exact hal), extsOf_get nets ord hal] at ea1
                  rw [pcells_fst (by rw [extsOf_len]; exact hbl), extsOf_get nets ord hbl] at eb0
                  rw [pcells_snd (by rw [extsOf_len]; exact hbl), extsOf_get nets ord hbl] at eb1
                  generalize tr.getD k 0 = tk at *
                  generalize extOf ord (nets.getD i (0, [])).2 = la at *
                  generalize extOf ord (nets.getD k (0, [])).2 = lb at *
                  obtain ⟨alo, ahi⟩ := la
                  obtain ⟨blo, bhi⟩ := lb
                  simp only at ea0 ea1 eb0 eb1 hrow
                  have K := Lib.hid (fun W => uMeet_any alo ahi blo bhi W)
                  generalize (decide (alo ≤ bhi) && decide (blo ≤ ahi)) = mt at *
                  have HRow2 := Lib.hid hrow
                  have HFalse := Lib.hid hfalse
                  have HBJ := Lib.hid hbj
                  have HBW := Lib.hid hbw
                  have hkt : k < tr.length := by omega
                  have HDW := Lib.hid ((Below.refl _ _).drew : Below wr.heap.size wr wr.drew)
                  clear hrow hfalse hbj kb hbx hivt k1 k2 k3 hbw
                  by_cases h7 : tk = ti
                  · have h7' : (tk == ti) = true := by simp [h7]
                    have H7 := Lib.hid h7
                    clear h7
                    cases mt with
                    | true =>
                      have hz : res = 30 := HFalse.out (by rw [HRow2.out, decide_eq_true H7.out.symm]; rfl)
                      have HZ3 := Lib.hid hz
                      clear hz
                      go_wp2
                      go_still_tail 22, (by kernel_rfl)
                      change wpList _ _ _ _ _ wr.drew
                      generalize wr.drew = w4 at *
                      go_wp2_with (go_at_call 54; (with_reducible refine (K.out _).mono ?_); rintro e w3 ⟨rfl, hb3⟩)
                      go_ret2
                      exact ⟨_, tret HZ3.out, fun h => by have := HZ3.out; omega, HBW.out.trans ((HDW.out.trans (hb3.mono HDW.out.size)).mono HBW.out.size)⟩
                    | false =>
                      have hz : rowApart nets ord tr i (k + 1) = true := by rw [HRow2.out, Bool.and_false]; rfl
                      have HZ3 := Lib.hid hz
                      clear hz
                      go_wp2
                      go_still_tail 22, (by kernel_rfl)
                      change wpList _ _ _ _ _ wr.drew
                      generalize wr.drew = w4 at *
                      go_wp2_with (go_at_call 54; (with_reducible refine (K.out _).mono ?_); rintro e w3 ⟨rfl, hb3⟩)
                      go_roundw
                      case rel => exact ⟨k + 1, by omega, by go_num, HZ3, HBJ.out.trans ((HDW.out.trans (hb3.mono HDW.out.size)).mono HBJ.out.size)⟩
                      case measure => simp [intOf]; omega
                  · have h7' : (tk == ti) = false := by simp [h7]
                    have hz : rowApart nets ord tr i (k + 1) = true := by rw [HRow2.out, decide_eq_false (fun e => h7 e.symm)]; rfl
                    have HZ3 := Lib.hid hz
                    clear hz h7
                    go_wp2
                    go_quiet (fail)
                    go_wp2
                    go_roundw
                    case rel => exact ⟨k + 1, by omega, by go_num, HZ3, HBJ.out.trans (below_drewN (Below.refl _ _) _)⟩
                    case measure => simp [intOf]; omega
                · obtain rfl : k = i := by omega
                  have hz : allApart nets ord tr (k + 1) = true := by unfold allApart; rw [hrel2.out, hrel3.out]; rfl
                  have HZ2 := Lib.hid hz
                  clear hz k1 k2 k3 kb
                  go_wp2
                  go_roundw
                  case rel => exact ⟨k + 1, by omega, by go_num, HZ2, hbj⟩
                  case measure => simp [intOf]; omega
            · obtain rfl : i = tr.length := by omega
              have hz : res = 0 := by rw [HY.out, ← HLen.out, if_pos hrel2.out]
              have HY2 := Lib.hid hz
              obtain ⟨_, hrow, _, hbw⟩ := HK.out wr hb
              have HRow3 := Lib.hid hrow
              have HBW := Lib.hid hbw
              clear hz hrow hbw
              go_wp2
              go_ret2
              exact ⟨_, tret HY2.out, fun _ => ⟨g, rfl, HRow3.out⟩, HBW.out⟩
    · have hd2 : ((tr.length : Int) != (nets.length : Int)) = true := by rw [bne_iff_ne]; omega
      have hz : res = 2 := by rw [HRE.out, if_neg c2]
      have HZ := Lib.hid hz
      clear hz c2 HRE
      go_wp2
      go_ret2
      exact ⟨_, tret HZ.out, fun h => by have := HZ.out; omega, HW.out⟩
  · have hne : (re != 0) = true := by simpa using c
    have hz : res = re := by rw [hre, if_neg c]
    subst hz
    have HC := Lib.hid c
    clear c hok hre hte hpv
    go_wp2
    go_ret2
    exact ⟨_, rfl, fun h => absurd h HC.out, HW.out⟩

set_option maxHeartbeats 1600000 in
set_option maxRecDepth 100000 in
/-- CheckLayout. -/
theorem uCheckLayout_any (p q r : Option Addr) (ca cb cc : Nat) (nets : List (Int × List Int)) (ord tr : List Int) (cols : Int) (w : World) (hx : NetsV w p nets) (ho : IntV w q ord) (ht : IntV w r tr) :
    Calls Tryz.prog 25 #[.slice p nets.length ca, .int .i64 cols, .agg #[.slice q ord.length cb, .slice r tr.length cc]] w fun e w' => e = .returned (.int .i64 (layoutOf nets cols ord tr)) ∧ Below w.heap.size w w' := by
  have KR := Lib.hid (fun W (h : Below w.heap.size w W) => uReadLayout_any p q r ca cb cc nets ord tr cols W (hx.below h) (ho.below h) (ht.below h))
  have hm := ht.1
  clear hx ho ht
  generalize layoutOf nets cols ord tr = res at *
  go_enter Tryz.func25, Tryz.ntmps25
  go_upto_region 1 with (fail)
  have G0 : Below w.heap.size w (w.alloc (.cells #[.slice q ord.length cb, .slice r tr.length cc] 49)) := (Below.refl _ _).alloc (Nat.le_refl _) _
  go_wp2_with (go_at_call 52; (with_reducible refine (KR.out _ G0).mono ?_); rintro e w1 ⟨pv, rfl, _, hb⟩)
  go_ret
  exact ⟨rfl, G0.trans (hb.mono G0.size)⟩
end Go.Proofs.YtggcnnpklkmeoaaGreatDoor
end

