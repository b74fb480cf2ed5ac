import Derived.Test.YtggcnnpklkmeoaaGreatDoorUB
import Derived.Test.YtggcnnpklkmeoaaGreatDoorWI
section
namespace Go.Proofs.YtggcnnpklkmeoaaGreatDoor
open Go.RowKit Go

theorem cFree_drop {p : Int} {l : List Int} {t : Nat} (h : t < l.length) : cFree p (l.drop t) = if p ≤ l.getD t 0 then cFree p (l.drop (t + 1)) + 1 else 0 := by
  rw [int_drop h]; rfl

theorem cTracks_len (nets : List (Int × List Int)) (ord : List Int) : ∀ k, (cTracks nets ord k).1.length = nets.length ∧ (cTracks nets ord k).2.length ≤ k * nets.length ∧ ∀ i, i ≤ nets.length → (cRow nets ord k (cTracks nets ord k) i).1.length = nets.length ∧ (cRow nets ord k (cTracks nets ord k) i).2.length ≤ k * nets.length + i := by
  have row : ∀ (k b : Nat) (s : List Int × List Int), s.1.length = nets.length → s.2.length ≤ b → ∀ i, (cRow nets ord k s i).1.length = nets.length ∧ (cRow nets ord k s i).2.length ≤ b + i := by
    intro k b s h1 h2 i
    induction i with
    | zero => exact ⟨h1, h2⟩
    | succ i ih =>
      unfold cRow cStep
      split
      · refine ⟨by rw [List.length_set]; exact ih.1, ?_⟩
        have := (endsSet_len (h := highOf nets ord i) (cFree_le k (cRow nets ord k s i).2)).2.2
        dsimp only
        omega
      · exact ⟨ih.1, by omega⟩
  intro k
  induction k with
  | zero => exact ⟨by simp [cTracks], by simp [cTracks], fun i _ => row 0 (0 * nets.length) _ (by simp [cTracks]) (by simp [cTracks]) i⟩
  | succ k ih =>
    have h := ih.2.2 nets.length (Nat.le_refl _)
    have h1 : (cTracks nets ord (k + 1)).1.length = nets.length := h.1
    have h2 : (cTracks nets ord (k + 1)).2.length ≤ (k + 1) * nets.length := by
      have := h.2
      rw [Nat.add_mul, Nat.one_mul]
      exact this
    exact ⟨h1, h2, fun i _ => row (k + 1) _ _ h1 h2 i⟩

/-- A row of integers is no box of another type. -/
theorem own_ne_box {w : World} {base g n cap b : Nat} {xs : List Int} {e : TypeId} {cs : List Value} (h : OwnC w base g n cap xs) (hb : BoxAt w b e cs) (hne : e ≠ 3) : g ≠ b := by
  intro he
  subst he
  obtain ⟨_, h2⟩ := h
  rcases h2 with ⟨h2, _⟩ | ⟨g2, c2, cur, h2, _, h3, _⟩
  · cases h2
  · injection h2 with e1 _ _
    injection e1 with e1
    injection e1 with e1 _ _
    subst e1
    unfold BoxAt at hb
    rw [h3] at hb
    injection hb with hb
    injection hb with _ hb _
    exact hne hb.symm

set_option maxHeartbeats 4000000 in
set_option maxRecDepth 100000 in
/-- tracks. -/
theorem uRtracks_any (g : Nat) (p q : Option Addr) (ca cb : Nat) (nets : List (Int × List Int)) (ord : List Int) (w : World) (h : RowAt w g p q ca cb nets ord) (hl1 : nets.length ≤ 64) (hl2 : ord.length ≤ 97) :
    Calls Tryz.prog 47 #[.pointer (some ⟨g, 0, none⟩)] w fun e w' => ∃ u, e = .returned (.tuple #[u, .int .i64 ((cTracks nets ord ord.length).2.length : Nat)]) ∧ IntsAt w' u (cTracks nets ord ord.length).1 ∧ Below w.heap.size w w' := by
  obtain ⟨i0, hInfo, hz0, hz1, hz2⟩ := info_parts intInfo
  obtain ⟨x, ps, h1, h2, h3, h4⟩ := h
  have ke := h1.cell 99
  rw [rowCells_ext h2] at ke
  have k0 := h1.cell 0
  have k1 := h1.cell 1
  simp only [rowCells, List.getElem?_cons_zero, List.getElem?_cons_succ] at k0 k1
  have hgl := h1.lt
  have hxl := h4.lt
  have H1 := Lib.hid h1
  have H2 := Lib.hid h2
  have H4 := Lib.hid h4
  have HLn := Lib.hid (cTracks_len nets ord)
  clear h1 h2 h3 h4
  go_enter Tryz.func47, Tryz.ntmps47
  go_wp2_with (at_make; refine wpList_make_full _ rfl _ _ 23 rfl w.heap.size 3 i0 (.int .i64 0) 1 Tryz.underlying23 hInfo hz0 hz1 _ _ _ _ nets.length rfl rfl (by first | rfl | simp) (by first | rfl | simp) ?b2 ?b3 (Nat.le_refl _) ?_)
  case b2 => rw [hz2]; omega
  case b3 => unfold maxLen; omega
  intro w0 hown0 hgrow0
  have hown0 := ownI_made hown0
  have hb0 : Below w.heap.size w w0 := (Below.refl _ _).grown hgrow0 (Nat.le_refl _) (fun k h => by cases h)
  have kc1 := (hb0.cell (p := ⟨g, 1, none⟩) hgl).trans k1
  have HB0 := Lib.hid hb0
  clear hgrow0 hb0 ke k0 k1
  have hS := hown0.lt.2
  go_wp2
  go_loopw [5, 21] (fun dv pv wr => ∃ (k : Nat) (v : Value), k ≤ ord.length ∧ pv = .int .i64 k ∧ dv = v ∧ wr.ownsRow w0.heap.size 3 1 v (cTracks nets ord k).2.length ((cTracks nets ord k).2.map (Value.int .i64)) ∧ OwnI wr w.heap.size w.heap.size nets.length (cTracks nets ord k).1 ∧ Below w.heap.size w wr ∧ w0.heap.size ≤ wr.heap.size) (fun _ pv _ => ord.length - (intOf pv).toNat)
  case atStart => exact ⟨0, _, Nat.zero_le _, rfl, rfl, World.ownsRow_nil _ _ _ _, hown0, HB0.out, Nat.le_refl _⟩
  case round =>
    clear kc1 hown0
    obtain ⟨k, v, hk, rfl, hv, hends, hout, hb, hsz⟩ := hrel
    replace hv := hv.symm
    subst hv
    by_cases h0 : k < ord.length
    · have ke := (H1.out.below hb hgl).cell 99
      rw [rowCells_ext H2.out] at ke
      have hln := (HLn.out k).2.2
      have hst0 : cRow nets ord k (cTracks nets ord k) 0 = cTracks nets ord k := rfl
      have hstE : cRow nets ord k (cTracks nets ord k) nets.length = cTracks nets ord (k + 1) := rfl
      have hstS : ∀ i, cRow nets ord k (cTracks nets ord k) (i + 1) = cStep nets ord k (cRow nets ord k (cTracks nets ord k) i) i := fun i => rfl
      rw [← hst0] at hends hout
      generalize cRow nets ord k (cTracks nets ord k) = st at *
      have HE := Lib.hid hstE
      have HS := Lib.hid hstS
      have HLl := Lib.hid hln
      have HD := Lib.hid hends
      have HO := Lib.hid hout
      have HB := Lib.hid hb
      clear hst0 hstE hstS hln hends hout hb
      go_wp2
      go_loopw [5, 29] (fun dv iv wr => ∃ (i : Nat) (v : Value), i ≤ nets.length ∧ iv = .int .i64 i ∧ dv = v ∧ wr.ownsRow w0.heap.size 3 1 v (st i).2.length ((st i).2.map (Value.int .i64)) ∧ OwnI wr w.heap.size w.heap.size nets.length (st i).1 ∧ Below w.heap.size w wr ∧ w0.heap.size ≤ wr.heap.size) (fun _ iv _ => nets.length - (intOf iv).toNat)
      case atStart => exact ⟨0, _, Nat.zero_le _, rfl, rfl, HD.out, HO.out, HB.out, hsz⟩
      case round =>
        clear HD HO HB ke hsz
        obtain ⟨i, v, hi, rfl, hv, hends, hout, hb, hsz⟩ := hrel
        replace hv := hv.symm
        subst hv
        by_cases h1 : i < nets.length
        · have hstep := HS.out i
          obtain ⟨hll, hle⟩ := HLl.out i (by omega)
          have hkm : k * nets.length ≤ 97 * 64 := Nat.mul_le_mul (by omega) hl1
          generalize hsi : st i = s at *
          obtain ⟨out, ends⟩ := s
          simp only at hends hout hll hle
          unfold cStep at hstep
          simp only at hstep
          have hel : ends.length ≤ 10000 := by omega
          have hE := H4.out.below hb hxl
          have e0 := hE.cell (i * 2)
          have e1 := hE.cell (i * 2 + 1)
          rw [pcells_fst (by rw [extsOf_len]; exact h1), extsOf_get nets ord h1] at e0
          rw [pcells_snd (by rw [extsOf_len]; exact h1), extsOf_get nets ord h1] at e1
          have hhi : highOf nets ord i = (extOf ord (nets.getD i (0, [])).2).2 := rfl
          rw [hhi] at hstep
          generalize extOf ord (nets.getD i (0, [])).2 = lh at *
          obtain ⟨lo, hi2⟩ := lh
          simp only at e0 e1 hstep
          have HStep := Lib.hid hstep
          have HLen := Lib.hid hll
          have HB := Lib.hid hb
          clear hstep hll hle hkm hhi hE hb hsi
          go_upto_region 9 with (fail)
          have B1 : BoxAt (wr.alloc (.cells #[.int .i64 lo, .int .i64 hi2] 40)) wr.heap.size 40 [.int .i64 lo, .int .i64 hi2] := BoxAt.made _ _ _
          have G1 : Below wr.heap.size wr (wr.alloc (.cells #[.int .i64 lo, .int .i64 hi2] 40)) := (Below.refl _ _).alloc (Nat.le_refl _) _
          generalize wr.alloc (.cells #[.int .i64 lo, .int .i64 hi2] 40) = w1 at *
          have HB1 := Lib.hid (HB.out.trans (G1.mono HB.out.size))
          have hends1 := rowBelow hends G1
          have hvl : ∀ b, v.ownBlock = some b → b < wr.heap.size := fun b hb => (hends.lt b hb).2
          have HO := Lib.hid (hout.kept G1)
          have hsz1 : w0.heap.size ≤ w1.heap.size := Nat.le_trans hsz G1.size
          have b0 := B1.cell 0
          have b1 := B1.cell 1
          simp only [List.getElem?_cons_zero, List.getElem?_cons_succ] at b0 b1
          have BB := Lib.hid B1
          have hbl := B1.lt
          generalize wr.heap.size = bx at *
          clear B1 G1 HB hends hout e0 e1
          by_cases h2 : lo = (k : Int)
          · have hnew : st (i + 1) = (out.set i (cFree k ends : Nat), endsSet ends (cFree k ends) hi2) := by rw [HStep.out, if_pos h2]
            have HNew := Lib.hid hnew
            have HSt := Lib.hid (fun (t : Nat) (h : t < ends.length) => cFree_drop (p := (k : Int)) h)
            have hcl := cFree_le (k : Int) ends
            subst h2
            obtain ⟨pd, cd, rfl, hiv, hcapd⟩ := IntV.of_owns hends1 (by omega)
            have HEn := Lib.hid hends1
            clear hnew HStep hends1
            go_wp2
            go_loop [9] (fun ti => ∃ (t : Nat), t ≤ ends.length ∧ ti = .int .i64 t ∧ Hid (t + cFree k (ends.drop t) = cFree k ends)) (fun ti => ends.length - (intOf ti).toNat)
            case atStart => exact ⟨0, Nat.zero_le _, rfl, Lib.hid (by rw [Nat.zero_add]; rfl)⟩
            case round =>
              obtain ⟨t, ht, rfl, hrel⟩ := hrel
              by_cases h3 : t < ends.length
              · have hst := HSt.out t h3
                obtain ⟨gd, od, rfl, hgd, hcd⟩ := hiv.at (i := t) h3
                by_cases h4 : (k : Int) ≤ ends.getD t 0
                · rw [if_pos h4] at hst
                  have hz : t + 1 + cFree k (ends.drop (t + 1)) = cFree k ends := by have := hrel.out; omega
                  have HZ := Lib.hid hz
                  generalize ends.getD t 0 = et at *
                  clear hst hrel hz
                  go_wp2
                  go_round
                  case rel => exact ⟨t + 1, by omega, by go_num, HZ⟩
                  case measure => simp [intOf]; omega
                · rw [if_neg h4] at hst
                  have hz : cFree k ends = t := by have := hrel.out; omega
                  rw [hz] at HNew hcl
                  have HZ := Lib.hid hz
                  have HEt := Lib.hid (show ends.getD t 0 < (k : Int) by omega)
                  generalize ends.getD t 0 = et at *
                  have hne4 : ((t : Int) == (ends.length : Int)) = false := by rw [beq_eq_false_iff_ne]; omega
                  clear hst hrel hz hiv
                  obtain ⟨ge, cape, hve, hC, hcc⟩ := OwnC.of HEn.out (by omega)
                  injection hve with hve _ _
                  injection hve with hve
                  injection hve with e1 e2 _
                  subst e1
                  subst e2
                  rw [Nat.zero_add] at hcd
                  have hCfr := hC.free t
                  have hOat := HO.out.at i (by rw [HLen.out]; exact h1)
                  have hOfr := HO.out.free i
                  have hne : w.heap.size ≠ gd := by have := hC.lt.1; omega
                  have hne5 : bx ≠ gd := by have := hvl gd rfl; omega
                  have hne6 : bx ≠ w.heap.size := by omega
                  have HC := Lib.hid hC
                  clear hC
                  go_wp2
                  go_region
                  have hO2 : OwnI ((w1.setCell ⟨w.heap.size, i, none⟩ (.int .i64 t)).setCell ⟨gd, t, none⟩ (.int .i64 hi2)).drew w.heap.size w.heap.size nets.length (st (i + 1)).1 := by
                    rw [HNew.out]
                    exact (HO.out.store i (t : Int)).toC.other (Ne.symm hne) t _
                  have hE2 : ((w1.setCell ⟨w.heap.size, i, none⟩ (.int .i64 t)).setCell ⟨gd, t, none⟩ (.int .i64 hi2)).drew.ownsRow w0.heap.size 3 1 (.slice (some ⟨gd, 0, none⟩) ends.length cape) (st (i + 1)).2.length ((st (i + 1)).2.map (Value.int .i64)) := by
                    rw [HNew.out]
                    have e : endsSet ends t hi2 = ends.set t hi2 := by unfold endsSet; rw [if_neg (by omega)]
                    simp only [e, List.length_set]
                    exact ((HC.out.other hne i _).store t hi2)
                  have hB2 : Below w.heap.size w ((w1.setCell ⟨w.heap.size, i, none⟩ (.int .i64 t)).setCell ⟨gd, t, none⟩ (.int .i64 hi2)).drew := by
                    refine ((HB1.out.setCell (Nat.le_refl _) _).setCell ?_ _).drew
                    have := HC.out.lt.1
                    show w.heap.size ≤ gd
                    omega
                  have hs2 : w0.heap.size ≤ ((w1.setCell ⟨w.heap.size, i, none⟩ (.int .i64 t)).setCell ⟨gd, t, none⟩ (.int .i64 hi2)).drew.heap.size := by simpa [World.setCell, World.drew] using hsz1
                  generalize ((w1.setCell ⟨w.heap.size, i, none⟩ (.int .i64 t)).setCell ⟨gd, t, none⟩ (.int .i64 hi2)).drew = w4 at *
                  clear hcd hCfr hOat hOfr b0 b1
                  go_wp2
                  go_roundw
                  case rel => exact ⟨i + 1, _, by omega, by go_num, rfl, hE2, hO2, hB2, hs2⟩
                  case measure => simp [intOf]; omega
              · obtain rfl : t = ends.length := by omega
                have hz : cFree k ends = ends.length := by
                  have := hrel.out
                  rw [List.drop_length] at this
                  have e : cFree (k : Int) [] = 0 := rfl
                  omega
                rw [hz] at HNew
                have hd4 : ((ends.length : Int) < (ends.length : Int)) = False := by simp
                have hne4 : ((ends.length : Int) == (ends.length : Int)) = true := by simp
                clear hrel hz hiv hcl h3
                go_wp2_with (at_builtin; refine wpList_append_own _ rfl _ _ 23 rfl w0.heap.size 3 i0 (.int .i64 0) 1 8 Tryz.underlying23 hInfo hz0 hz1 hz2 rfl (by decide) _ _ _ rfl (HEn.out.alloc _) ⟨w1.heap.size, 0, none⟩ 1 1 [.int .i64 0] rfl rfl ?c1 ?c2 ?c3 ?c4 ?c5 ?_)
                all_goals try (first | rfl | (unfold maxLen; omega) | omega)
                intro v' w2 hown' hgrow _
                have hlt := (HEn.out.alloc (.cells #[.int .i64 0] 3)).lt
                have hgr0 : w1.heap.size < (w1.alloc (.cells #[.int .i64 0] 3)).heap.size := by simp
                have hsz2 : w0.heap.size ≤ w2.heap.size := Nat.le_trans (by simp; omega) hgrow.size
                have hown2 : w2.ownsRow w0.heap.size 3 1 v' (ends.length + 1) ((ends ++ [0]).map (Value.int .i64)) := by
                  rw [List.map_append]; exact hown'
                have hout2 : OwnI w2 w.heap.size w.heap.size nets.length out :=
                  (HO.out.kept ((Below.refl _ _).alloc (Nat.le_refl _) _)).grown hgrow (by intro e; have := (hlt _ e.symm).1; omega)
                have hbel2 : Below w.heap.size w w2 := (HB1.out.alloc HB1.out.size _).grown hgrow (by have := HB1.out.size; simp; omega) fun b hb => by have := (hlt b hb).1; omega
                have hbox2 : BoxAt w2 bx 40 [.int .i64 k, .int .i64 hi2] := (BB.out.alloc _).grown hgrow (by intro e; have := hvl _ e.symm; omega)
                obtain ⟨gd, cape, rfl, hC, hcc⟩ := OwnC.of (l := ends ++ [0]) hown2 (by simp)
                have hgb : gd ≠ bx := own_ne_box hC hbox2 (by decide)
                have hlC := hC.lt
                have hne : w.heap.size ≠ gd := by omega
                have hne5 : bx ≠ gd := Ne.symm hgb
                have hne6 : bx ≠ w.heap.size := by omega
                have hcd := hC.at ends.length (by simp)
                have hCfr := hC.free ends.length
                have hOat := hout2.at i (by rw [HLen.out]; exact h1)
                have hOfr := hout2.free i
                have b1 := hbox2.cell 1
                simp only [List.getElem?_cons_zero, List.getElem?_cons_succ] at b1
                generalize (ends ++ [0]).getD ends.length 0 = old at *
                have HC := Lib.hid hC
                have HO2 := Lib.hid hout2
                have HB2 := Lib.hid hbel2
                clear hC hout2 hbel2 hbox2 hown' hown2 hgrow hlt hgr0 hgb HO HB1 BB hvl
                go_wp2
                go_region
                have hO2 : OwnI ((w2.setCell ⟨w.heap.size, i, none⟩ (.int .i64 ends.length)).setCell ⟨gd, ends.length, none⟩ (.int .i64 hi2)).drew w.heap.size w.heap.size nets.length (st (i + 1)).1 := by
                  rw [HNew.out]
                  exact (HO2.out.store i (ends.length : Int)).toC.other (Ne.symm hne) ends.length _
                have hE2 : ((w2.setCell ⟨w.heap.size, i, none⟩ (.int .i64 ends.length)).setCell ⟨gd, ends.length, none⟩ (.int .i64 hi2)).drew.ownsRow w0.heap.size 3 1 (.slice (some ⟨gd, 0, none⟩) (ends.length + 1) cape) (st (i + 1)).2.length ((st (i + 1)).2.map (Value.int .i64)) := by
                  rw [HNew.out]
                  have e : endsSet ends ends.length hi2 = (ends ++ [0]).set ends.length hi2 := by
                    unfold endsSet
                    rw [if_pos rfl, List.set_append_right _ _ (Nat.le_refl _), Nat.sub_self]; rfl
                  simp only [e, List.length_set, List.length_append, List.length_cons, List.length_nil]
                  exact ((HC.out.other hne i _).store ends.length hi2)
                have hB2 : Below w.heap.size w ((w2.setCell ⟨w.heap.size, i, none⟩ (.int .i64 ends.length)).setCell ⟨gd, ends.length, none⟩ (.int .i64 hi2)).drew := by
                  refine ((HB2.out.setCell (Nat.le_refl _) _).setCell ?_ _).drew
                  show w.heap.size ≤ gd
                  omega
                have hs2 : w0.heap.size ≤ ((w2.setCell ⟨w.heap.size, i, none⟩ (.int .i64 ends.length)).setCell ⟨gd, ends.length, none⟩ (.int .i64 hi2)).drew.heap.size := by simpa [World.setCell, World.drew] using hsz2
                generalize ((w2.setCell ⟨w.heap.size, i, none⟩ (.int .i64 ends.length)).setCell ⟨gd, ends.length, none⟩ (.int .i64 hi2)).drew = w4 at *
                clear hcd hCfr hOat hOfr b1
                go_wp2
                go_roundw
                case rel => exact ⟨i + 1, _, by omega, by go_num, rfl, hE2, hO2, hB2, hs2⟩
                case measure => simp [intOf]; omega
          · have hnew : st (i + 1) = (out, ends) := by rw [HStep.out, if_neg h2]
            have HNew := Lib.hid hnew
            have hd2 : (lo != (k : Int)) = true := by simpa using h2
            have hE2 : w1.ownsRow w0.heap.size 3 1 v (st (i + 1)).2.length ((st (i + 1)).2.map (Value.int .i64)) := by rw [hnew]; exact hends1
            have hO2 : OwnI w1 w.heap.size w.heap.size nets.length (st (i + 1)).1 := by rw [hnew]; exact HO.out
            clear hnew h2
            go_wp2
            go_roundw
            case rel => exact ⟨i + 1, _, by omega, by go_num, rfl, hE2, hO2, HB1.out, hsz1⟩
            case measure => simp [intOf]; omega
        · obtain rfl : i = nets.length := by omega
          rw [HE.out] at hends hout
          have HD := Lib.hid hends
          have HO := Lib.hid hout
          have HB := Lib.hid hb
          clear hends hout hb
          go_wp2
          go_roundw
          case rel => exact ⟨k + 1, _, by omega, by go_num, rfl, HD.out, HO.out, HB.out, hsz⟩
          case measure => simp [intOf]; omega
    · obtain rfl : k = ord.length := by omega
      obtain ⟨hll, hle, _⟩ := HLn.out ord.length
      have hkm : ord.length * nets.length ≤ 97 * 64 := Nat.mul_le_mul hl2 hl1
      obtain ⟨pd, cd, rfl, hcapd⟩ := own_slice hends
      generalize hT : cTracks nets ord ord.length = T at *
      have hIA : IntsAt wr (.slice (some ⟨w.heap.size, 0, none⟩) nets.length nets.length) T.1 := ⟨_, nets.length, by rw [hll], hout.intV (by omega), by rw [hll]; exact Nat.le_refl _⟩
      have HIA := Lib.hid hIA
      have HB := Lib.hid hb
      clear hends hout hb hkm h0 hIA
      go_wp2
      go_ret2
      subst hT
      exact ⟨_, rfl, HIA.out, HB.out⟩
end Go.Proofs.YtggcnnpklkmeoaaGreatDoor
end

section
namespace Go.Proofs.YtggcnnpklkmeoaaGreatDoor
open Go.RowKit Go

set_option maxRecDepth 100000 in
set_option maxHeartbeats 800000 in
/-- contains. -/
theorem uContains_any (lo hi p : Int) (w : World) :
    Calls Tryz.prog 75 #[.agg #[.int .i64 lo, .int .i64 hi], .int .i64 p] w fun e w' => e = .returned (.bool (decide (lo ≤ p) && decide (p ≤ hi))) ∧ Below w.heap.size w w' := by
  by_cases h1 : lo ≤ p
  · go_enter Tryz.func75, Tryz.ntmps75
    go_wp2
    go_ret
    exact ⟨bret (by rw [decide_eq_true h1, Bool.true_and]), by first | exact (Below.refl _ _).alloc (Nat.le_refl _) _ | exact ((Below.refl _ _).alloc (Nat.le_refl _) _).drew⟩
  · go_enter Tryz.func75, Tryz.ntmps75
    go_wp2
    go_ret
    exact ⟨bret (by rw [decide_eq_false (by omega), Bool.false_and]), by first | exact (Below.refl _ _).alloc (Nat.le_refl _) _ | exact ((Below.refl _ _).alloc (Nat.le_refl _) _).drew⟩

set_option maxRecDepth 100000 in
set_option maxHeartbeats 800000 in
/-- meet. -/
theorem uMeet_any (a b c d : Int) (w : World) :
    Calls Tryz.prog 54 #[.agg #[.int .i64 a, .int .i64 b], .agg #[.int .i64 c, .int .i64 d]] w fun e w' => e = .returned (.bool (decide (a ≤ d) && decide (c ≤ b))) ∧ Below w.heap.size w w' := by
  by_cases h1 : a ≤ d
  · go_enter Tryz.func54, Tryz.ntmps54
    go_wp2
    go_ret
    exact ⟨bret (by rw [decide_eq_true h1, Bool.true_and]), by first | exact ((Below.refl _ _).alloc (Nat.le_refl _) _).alloc (by simp) _ | exact (((Below.refl _ _).alloc (Nat.le_refl _) _).alloc (by simp) _).drew⟩
  · go_enter Tryz.func54, Tryz.ntmps54
    go_wp2
    go_ret
    exact ⟨bret (by rw [decide_eq_false (by omega), Bool.false_and]), by first | exact ((Below.refl _ _).alloc (Nat.le_refl _) _).alloc (by simp) _ | exact (((Below.refl _ _).alloc (Nat.le_refl _) _).alloc (by simp) _).drew⟩

/-- What extents say of nets that meet. -/
theorem meet_exts {n : Nat} {ord a b : List Int} (ho : OkOrd n ord) (ha : OkCols n a) (hb : OkCols n b) : meetB ord a b = (decide ((extOf ord a).1 ≤ (extOf ord b).2) && decide ((extOf ord b).1 ≤ (extOf ord a).2)) := by
  have h1 := ext_ok ho ha
  have h2 := ext_ok ho hb
  rw [Bool.eq_iff_iff, meetB_iff, Bool.and_eq_true, decide_eq_true_iff, decide_eq_true_iff]
  constructor
  · rintro ⟨p, _, c1, c2⟩
    rw [covB_iff] at c1 c2
    omega
  · rintro ⟨c1, c2⟩
    by_cases h : (extOf ord a).1 ≤ (extOf ord b).1
    · exact ⟨(extOf ord b).1.toNat, by rw [ho.len]; omega, covB_iff.2 (by omega), covB_iff.2 (by omega)⟩
    · exact ⟨(extOf ord a).1.toNat, by rw [ho.len]; omega, covB_iff.2 (by omega), covB_iff.2 (by omega)⟩

set_option maxHeartbeats 4000000 in
set_option maxRecDepth 100000 in
/-- around. -/
theorem uRaround_any (g : Nat) (p q : Option Addr) (ca cb : Nat) (nets : List (Int × List Int)) (ord : List Int) (at_ : Int) (w : World) (h : RowAt w g p q ca cb nets ord) (hl1 : nets.length ≤ 64) :
    Calls Tryz.prog 48 #[.pointer (some ⟨g, 0, none⟩), .int .i64 at_] w fun e w' => ∃ u, e = .returned u ∧ IntsAt w' u (coverTo nets ord at_ nets.length) ∧ Below w.heap.size w w' := by
  obtain ⟨i0, hInfo, hz0, hz1, hz2⟩ := info_parts intInfo
  obtain ⟨x, ps, h1, h2, h3, h4⟩ := h
  have ke := h1.cell 99
  rw [rowCells_ext h2] at ke
  have hxl := h4.lt
  have H4 := Lib.hid h4
  clear h1 h2 h3 h4
  go_enter Tryz.func48, Tryz.ntmps48
  go_wp2
  go_loopw [5, 13] (fun lv ii wr => ∃ (k : Nat) (v : Value), k ≤ nets.length ∧ ii = .int .i64 k ∧ lv = v ∧ wr.ownsRow w.heap.size 3 1 v (coverTo nets ord at_ k).length ((coverTo nets ord at_ k).map (Value.int .i64)) ∧ Below w.heap.size w wr) (fun _ ii _ => nets.length - (intOf ii).toNat)
  case atStart => exact ⟨0, _, Nat.zero_le _, rfl, rfl, World.ownsRow_nil _ _ _ _, Below.refl _ _⟩
  case round =>
    clear ke
    obtain ⟨k, v, hk, rfl, hv, hown, hb⟩ := hrel
    replace hv := hv.symm
    subst hv
    by_cases h0 : k < nets.length
    · have hcl := coverTo_le nets ord at_ k
      have hs : coverTo nets ord at_ (k + 1) = coverTo nets ord at_ k ++ if covB ord (nets.getD k (0, [])).2 at_ = true then [(k : Int)] else [] := rfl
      have hE := H4.out.below hb hxl
      have e0 := hE.cell (k * 2)
      have e1 := hE.cell (k * 2 + 1)
      rw [pcells_fst (by rw [extsOf_len]; exact h0), extsOf_get nets ord h0] at e0
      rw [pcells_snd (by rw [extsOf_len]; exact h0), extsOf_get nets ord h0] at e1
      have hcv : covB ord (nets.getD k (0, [])).2 at_ = (decide ((extOf ord (nets.getD k (0, [])).2).1 ≤ at_) && decide (at_ ≤ (extOf ord (nets.getD k (0, [])).2).2)) := rfl
      rw [hcv] at hs
      generalize extOf ord (nets.getD k (0, [])).2 = lh at *
      obtain ⟨lo, hi⟩ := lh
      simp only at e0 e1 hs
      generalize hl2 : coverTo nets ord at_ (k + 1) = l2 at *
      generalize coverTo nets ord at_ k = l1 at *
      generalize hd : (decide (lo ≤ at_) && decide (at_ ≤ hi)) = d at *
      have HS := Lib.hid hs
      have HD := Lib.hid hd
      have HB := Lib.hid hb
      have HO := Lib.hid hown
      clear hs hd hcv hE hb hown
      go_upto_region 5 with (fail)
      have B1 : BoxAt (wr.alloc (.cells #[.int .i64 lo, .int .i64 hi] 40)) wr.heap.size 40 [.int .i64 lo, .int .i64 hi] := BoxAt.made _ _ _
      have G1 : Below wr.heap.size wr (wr.alloc (.cells #[.int .i64 lo, .int .i64 hi] 40)) := (Below.refl _ _).alloc (Nat.le_refl _) _
      generalize wr.alloc (.cells #[.int .i64 lo, .int .i64 hi] 40) = w1 at *
      have HB1 := Lib.hid (HB.out.trans (G1.mono HB.out.size))
      have HO1 := Lib.hid (rowBelow HO.out G1)
      have b0 := B1.cell 0
      have b1 := B1.cell 1
      simp only [List.getElem?_cons_zero, List.getElem?_cons_succ] at b0 b1
      have hbl := B1.lt
      have K := Lib.hid (uContains_any lo hi at_ w1)
      rw [HD.out] at K
      generalize wr.heap.size = bx at *
      clear B1 G1 HB HO e0 e1
      cases d with
      | false =>
        have hz : l2 = l1 := by rw [HS.out]; simp
        subst hz
        go_wp2_with (go_at_call 75; (with_reducible refine K.out.mono ?_); rintro e w2 ⟨rfl, hb2⟩)
        go_roundw
        case rel => exact ⟨k + 1, _, by omega, by go_num, rfl, by rw [hl2]; exact rowBelow HO1.out hb2, HB1.out.trans (hb2.mono HB1.out.size)⟩
        case measure => simp [intOf]; omega
      | true =>
        have hz : l2 = l1 ++ [(k : Int)] := by rw [HS.out]; rfl
        have HZ := Lib.hid hz
        clear hz
        go_wp2_with (first
          | (go_at_call 75; (with_reducible refine K.out.mono ?_); rintro e w2 ⟨rfl, hb2⟩; have hO2 := rowBelow HO1.out hb2; have hB2 := HB1.out.trans (hb2.mono HB1.out.size); have hs2 := hB2.size)
          | (at_builtin; refine wpList_append_own _ rfl _ _ 23 rfl w.heap.size 3 i0 (.int .i64 0) 1 8 Tryz.underlying23 hInfo hz0 hz1 hz2 rfl (by decide) _ _ _ rfl (hO2.alloc _) ⟨w2.heap.size, 0, none⟩ 1 1 [.int .i64 (k : Int)] rfl rfl ?c1 ?c2 ?c3 ?c4 ?c5 ?_))
        case c1 =>
          intro j u hj
          match j, hj with
          | 0, hj => simp at hj; subst hj; simp [Addr.add]
        case c2 => intro u hu; simp at hu; subst hu; rfl
        case c3 => unfold maxLen; omega
        case c4 => omega
        case c5 => simp; omega
        intro v' w3 hown' hgrow _
        have hlt := (hO2.alloc (.cells #[.int .i64 (k : Int)] 3)).lt
        have hbel : Below w.heap.size w w3 := (hB2.alloc hs2 _).grown hgrow (by simp; omega) fun b hb => (hlt b hb).1
        have hown3 : w3.ownsRow w.heap.size 3 1 v' l2.length (l2.map (Value.int .i64)) := by
          rw [HZ.out, List.length_append, List.map_append]; exact hown'
        clear hown' hgrow hlt hO2 hB2 hb2
        go_wp2
        go_roundw
        case rel => exact ⟨k + 1, _, by omega, by go_num, rfl, by rw [hl2]; exact hown3, hbel⟩
        case measure => simp [intOf]; omega
    · obtain rfl : k = nets.length := by omega
      obtain ⟨p', c', rfl, hiv, hcap⟩ := IntV.of_owns hown (by have := coverTo_le nets ord at_ nets.length; omega)
      go_wp2
      go_ret
      exact ⟨_, rfl, ⟨p', c', rfl, hiv, hcap⟩, hb⟩

set_option maxHeartbeats 1600000 in
set_option maxRecDepth 100000 in
/-- Tracks. -/
theorem uTracks_any (p q : Option Addr) (ca cb : Nat) (nets : List (Int × List Int)) (ord : List Int) (cols : Int) (w : World) (hx : NetsV w p nets) (ho : IntV w q ord) :
    Calls Tryz.prog 19 #[.slice p nets.length ca, .int .i64 cols, .slice q ord.length cb] w fun e w' => ∃ u n, e = .returned (.tuple #[u, .int .i64 n, .int .i64 (rowErr cols nets ord)]) ∧
      (rowErr cols nets ord ≠ 0 → u = .slice none 0 0 ∧ n = 0) ∧ (rowErr cols nets ord = 0 → IntsAt w' u (tracksOf nets ord) ∧ n = (dcnt (tracksOf nets ord) nets.length : Nat)) ∧ Below w.heap.size w w' := by
  have KR := Lib.hid (uReadRow_any p q ca cb nets ord cols w hx ho)
  have KT := Lib.hid (fun (hz : rowErr cols nets ord = 0) W g (h : RowAt W g p q ca cb nets ord) => uRtracks_any g p q ca cb nets ord W h (rowOk_of hz).most (rowOk_of hz).len)
  have hct := fun (hz : rowErr cols nets ord = 0) => cTracks_eq (rowOk_of hz).ok
  have hcc := fun (hz : rowErr cols nets ord = 0) => cTracks_count (rowOk_of hz).ok
  clear hx ho
  generalize rowErr cols nets ord = res at *
  by_cases c : res = 0
  · have KT2 := KT.out c
    rw [hct c, hcc c] at KT2
    have KT3 := Lib.hid KT2
    subst c
    clear KT KT2 hct hcc
    generalize dcnt (tracksOf nets ord) nets.length = n at *
    generalize tracksOf nets ord = T at *
    go_enter Tryz.func19, Tryz.ntmps19
    go_wp2_with (first
      | (go_at_call 43; (with_reducible refine KR.out.mono ?_); rintro e w1 ⟨pv, rfl, hpv, hb⟩; obtain ⟨g, rfl, hrow⟩ := hpv rfl)
      | (go_at_call 47; (with_reducible refine (KT3.out _ _ hrow).mono ?_); rintro e w2 ⟨u, rfl, hu, hb2⟩))
    go_ret3
    exact ⟨_, _, rfl, fun h => absurd rfl h, fun _ => ⟨hu, rfl⟩, hb.trans (hb2.mono hb.size)⟩
  · have hne : (res != 0) = true := by simpa using c
    have HC := Lib.hid c
    clear c KT hct hcc
    go_enter Tryz.func19, Tryz.ntmps19
    go_wp2_with (go_at_call 43; (with_reducible refine KR.out.mono ?_); rintro e w1 ⟨pv, rfl, hpv, hb⟩; clear hpv)
    go_ret3
    exact ⟨_, _, rfl, fun _ => ⟨rfl, rfl⟩, fun h => absurd h HC.out, hb⟩

set_option maxHeartbeats 3200000 in
set_option maxRecDepth 100000 in
/-- Clique. -/
theorem uClique_any (p q : Option Addr) (ca cb : Nat) (nets : List (Int × List Int)) (ord : List Int) (cols : Int) (w : World) (hx : NetsV w p nets) (ho : IntV w q ord) :
    Calls Tryz.prog 20 #[.slice p nets.length ca, .int .i64 cols, .slice q ord.length cb] w fun e w' => ∃ u n, e = .returned (.tuple #[u, .int .i64 n, .int .i64 (rowErr cols nets ord)]) ∧
      (rowErr cols nets ord ≠ 0 → u = .slice none 0 0 ∧ n = 0) ∧ (rowErr cols nets ord = 0 → IntsAt w' u (bestTo nets ord ord.length).1 ∧ n = (bestTo nets ord ord.length).2) ∧ Below w.heap.size w w' := by
  have KR := Lib.hid (uReadRow_any p q ca cb nets ord cols w hx ho)
  have KA := Lib.hid (fun (hz : rowErr cols nets ord = 0) W g at_ (h : RowAt W g p q ca cb nets ord) => uRaround_any g p q ca cb nets ord at_ W h (rowOk_of hz).most)
  have hok := fun (hz : rowErr cols nets ord = 0) => rowOk_of hz
  clear hx ho
  generalize rowErr cols nets ord = res at *
  by_cases c : res = 0
  · have KA2 := Lib.hid (KA.out c)
    have HOk := Lib.hid (hok c)
    have hlm := (hok c).len
    have hmo := (hok c).most
    subst c
    clear KA hok
    go_enter Tryz.func20, Tryz.ntmps20
    go_upto_region 4 with (go_at_call 43; (with_reducible refine KR.out.mono ?_); rintro e w1 ⟨pv, rfl, hpv, hb⟩; obtain ⟨g, rfl, hrow⟩ := hpv rfl)
    have HRow := Lib.hid hrow
    have HB := Lib.hid hb
    clear hpv hrow hb
    go_upto_region 5 with (go_at_call 48; (with_reducible refine (KA2.out _ _ _ HRow.out).mono ?_); rintro e w2 ⟨u, rfl, hu, hb2⟩)
    have hz := cBest_zero nets ord
    have hu0 : IntsAt w2 u (cBest nets ord 0).1 := by rw [hz]; exact hu
    have hu1 : (cBest nets ord 0).2 = 0 := by rw [hz]
    have HU0 := Lib.hid hu0
    have HU1 := Lib.hid hu1
    have HB2 := Lib.hid hb2
    obtain ⟨x, ps, k1, k2, k3, k4⟩ := HRow.out
    have kc := (hb2.cell (p := ⟨g, 1, none⟩) k1.lt).trans (k1.cell 1)
    simp only [rowCells, List.getElem?_cons_zero, List.getElem?_cons_succ] at kc
    clear hz hu hu0 hu1 hb2 k1 k2 k3 k4
    go_wp2
    go_loopw [11, 12, 32] (fun vi ai ii wr => ∃ (k : Nat) (v : Value) (a : Int), k ≤ ord.length ∧ ii = .int .i64 k ∧ vi = v ∧ ai = .int .i64 a ∧ Hid ((cBest nets ord k).2 = a) ∧ IntsAt wr v (cBest nets ord k).1 ∧ Below w1.heap.size w1 wr) (fun _ _ ii _ => ord.length - (intOf ii).toNat)
    case atStart => exact ⟨0, _, 0, Nat.zero_le _, rfl, rfl, rfl, HU1, HU0.out, HB2.out⟩
    case round =>
      obtain ⟨k, v, a, hk, rfl, hv, rfl, hrel, hv2, hbk⟩ := hrel
      replace hv := hv.symm
      subst hv
      by_cases h0 : k < ord.length
      · have hbl : (cBest nets ord k).1.length ≤ nets.length := bestTo_le nets ord _
        have hcl := coverTo_le nets ord k nets.length
        have hs := cBest_succ nets ord k
        have K := Lib.hid (KA2.out wr g (k : Int) (HRow.out.below hbk))
        obtain ⟨pv, cv, rfl, hiv, hcv⟩ := hv2
        generalize coverTo nets ord k nets.length = l2 at *
        generalize hs2 : cBest nets ord (k + 1) = s2 at *
        generalize hs1 : cBest nets ord k = s1 at *
        obtain ⟨l1, a1⟩ := s1
        simp only at hbl hs hiv hcv hrel
        have hra := hrel.out
        subst hra
        have HS := Lib.hid hs
        have HIV := Lib.hid hiv
        have HBk := Lib.hid hbk
        clear hs hiv hbk hs1 hrel
        go_upto_region 9 with (go_at_call 48; (with_reducible refine K.out.mono ?_); rintro e w3 ⟨u3, rfl, hu3, hb3⟩)
        obtain ⟨p3, c3, rfl, hiv3, hc3⟩ := hu3
        have HIV3 := Lib.hid hiv3
        have HIV1 := Lib.hid (HIV.out.below hb3)
        have HB3 := Lib.hid (HBk.out.trans (hb3.mono HBk.out.size))
        clear hiv3 hb3
        by_cases h2 : l1.length < l2.length
        · have hz : s2 = (l2, (k : Int)) := by rw [HS.out, if_pos h2]
          have HZ := Lib.hid hz
          clear hz
          have h2' : (l1.length : Int) < l2.length := by omega
          go_wp2
          go_roundw
          case rel => exact ⟨k + 1, _, (k : Int), by omega, by go_num, rfl, rfl, Lib.hid (by rw [hs2, HZ.out]), by rw [hs2, HZ.out]; exact ⟨_, _, rfl, HIV3.out, hc3⟩, HB3.out⟩
          case measure => simp [intOf]; omega
        · have hz : s2 = (l1, a1) := by rw [HS.out, if_neg h2]
          have HZ := Lib.hid hz
          clear hz
          have h2' : ¬ (l1.length : Int) < l2.length := by omega
          go_wp2
          go_roundw
          case rel => exact ⟨k + 1, _, a1, by omega, by go_num, rfl, rfl, Lib.hid (by rw [hs2, HZ.out]), by rw [hs2, HZ.out]; exact ⟨_, _, rfl, HIV1.out, hcv⟩, HB3.out⟩
          case measure => simp [intOf]; omega
      · obtain rfl : k = ord.length := by omega
        have he : cBest nets ord ord.length = bestTo nets ord ord.length := cBest_all HOk.out.pos
        rw [he] at hrel hv2
        obtain ⟨pv, cv, rfl, hiv, hcv⟩ := hv2
        generalize hbt : bestTo nets ord ord.length = bt at *
        have hra := hrel.out
        have HIV := Lib.hid hiv
        have HRA := Lib.hid hra
        have HBT := Lib.hid hbt
        have HBk := Lib.hid hbk
        clear hiv hra hrel he hbt hbk
        go_wp2
        go_ret3
        exact ⟨_, _, rfl, fun h => absurd rfl h, fun _ => by rw [HBT.out]; exact ⟨⟨_, _, rfl, HIV.out, hcv⟩, HRA.out.symm⟩, HB.out.trans (HBk.out.mono HB.out.size)⟩
  · have hne : (res != 0) = true := by simpa using c
    have HC := Lib.hid c
    clear c KA hok
    go_enter Tryz.func20, Tryz.ntmps20
    go_wp2_with (go_at_call 43; (with_reducible refine KR.out.mono ?_); rintro e w1 ⟨pv, rfl, hpv, hb⟩; clear hpv)
    go_ret3
    exact ⟨_, _, rfl, fun _ => ⟨rfl, rfl⟩, fun h => absurd h HC.out, hb⟩
end Go.Proofs.YtggcnnpklkmeoaaGreatDoor
end

