import Derived.Test.YtggcnnpklkmeoaaGreatDoorUD
import Derived.Test.YtggcnnpklkmeoaaGreatDoorFR
import Derived.RangeFuncNested
import Derived.RangeFuncBound
import Derived.RangeFuncCalls
import Derived.RangeFuncLeaves
import Derived.RangeFuncBox
import Derived.Shelf.Abstract
import Derived.Shelf.RegionOpen
import Derived.OwnWalkIn
import Derived.TacticsInMore
import Derived.LoopNIn
import Derived.LoopIn
section
namespace Go.Proofs.YtggcnnpklkmeoaaGreatDoor
open Go.RowKit Go

theorem wordInfo : (Tryz.prog.info? 135).map (fun i => (i.zero, i.size, i.bytes)) = some (some (.int .u64 0), 1, 8) := by kernel_rfl

/-! Rows of words of the call's own. -/
def OwnW (w : World) (base g n : Nat) (bs : List Int) : Prop := w.ownsRow base 135 1 (.slice (some ⟨g, 0, none⟩) n n) n (bs.map (Value.int .u64))

theorem OwnW.len {w : World} {base g n : Nat} {bs : List Int} (h : OwnW w base g n bs) : bs.length = n := by
  have := h.1; simpa using this

theorem OwnW.at {w : World} {base g n : Nat} {bs : List Int} (h : OwnW w base g n bs) (i : Nat) (hi : i < bs.length) : w.cell? ⟨g, i, none⟩ = some (.int .u64 (bs.getD i 0)) := by
  have h2 := World.ownsRow.cells h (g := g) rfl i (.int .u64 (bs.getD i 0)) (by simp [List.getElem?_map, hi, List.getD_eq_getElem?_getD])
  have hadd : (⟨g, 0, none⟩ : Addr).add i = ⟨g, 0 + i, none⟩ := by unfold Addr.add; split <;> simp_all
  rw [hadd, Nat.zero_add] at h2
  exact h2

theorem OwnW.free {w : World} {base g n : Nat} {bs : List Int} (h : OwnW w base g n bs) (i : Nat) : w.frozen? ⟨g, i, none⟩ = false := World.ownsRow.frozenAt h i

theorem OwnW.store {w : World} {base g n : Nat} {bs : List Int} (h : OwnW w base g n bs) (i : Nat) (x : Int) : OwnW (w.setCell ⟨g, i, none⟩ (.int .u64 x)) base g n (bs.set i x) := by
  have := (World.ownsRow.stored h i (.int .u64 x)).1
  unfold OwnW
  rw [show (bs.set i x).map (Value.int .u64) = (bs.map (Value.int .u64)).set i (.int .u64 x) by simp [List.map_set]]
  exact this

theorem OwnW.kept {w w' : World} {base g n : Nat} {bs : List Int} (h : OwnW w base g n bs) (hb : Below w.heap.size w w') : OwnW w' base g n bs := by
  have h0 : Below w.heap.size w w' := hb
  refine World.ownsRow.kept (row := none) h ⟨h0.os, h0.tape, h0.output, h0.size, fun k hk _ => h0.block k hk⟩ (Or.inr ?_)
  simp [Value.ownBlock]

theorem OwnW.lt {w : World} {base g n : Nat} {bs : List Int} (h : OwnW w base g n bs) : base ≤ g ∧ g < w.heap.size := World.ownsRow.lt h g rfl

theorem ownW_made {w : World} {base g n : Nat} (h : w.ownsRow base 135 1 (.slice (some ⟨g, 0, none⟩) n n) n (madeCells #[Value.int .u64 0] n).toList) : OwnW w base g n (List.replicate n 0) := by
  rw [toList_madeCells_one] at h
  unfold OwnW
  rw [show (List.replicate n (0 : Int)).map (Value.int .u64) = List.replicate n (Value.int .u64 0) by simp]
  exact h

/-- A set with one more track. -/
def orBit (b : Int) (t : Nat) : Int := bits .or .u64 b (IntKind.u64.wrap (2 ^ t))

/-- The sets behind m positions of a net from l on. -/
def fillF (t l : Nat) (bs : List Int) : Nat → List Int
  | 0 => bs
  | m + 1 => (fillF t l bs m).set (l + m) (orBit ((fillF t l bs m).getD (l + m) 0) t)

/-- The sets behind the first i nets. -/
def takenF (es : List (Int × Int)) (n : Nat) (tr : List Int) : Nat → List Int
  | 0 => List.replicate n 0
  | i + 1 => fillF (tr.getD i 0).toNat (es.getD i (0, 0)).1.toNat (takenF es n tr i) ((es.getD i (0, 0)).2 + 1 - (es.getD i (0, 0)).1).toNat

theorem fillF_len (t l : Nat) (bs : List Int) : ∀ m, (fillF t l bs m).length = bs.length
  | 0 => rfl
  | m + 1 => by unfold fillF; rw [List.length_set, fillF_len t l bs m]

theorem takenF_len (es : List (Int × Int)) (n : Nat) (tr : List Int) : ∀ i, (takenF es n tr i).length = n
  | 0 => by simp [takenF]
  | i + 1 => by unfold takenF; rw [fillF_len, takenF_len es n tr i]

set_option maxHeartbeats 4000000 in
set_option maxRecDepth 100000 in
/-- taken. -/
theorem uTaken_any (g : Nat) (p q r : Option Addr) (ca cb cc : Nat) (nets : List (Int × List Int)) (ord tr : List Int) (w : World) (h : RowAt w g p q ca cb nets ord) (ht : IntV w r tr) (htl : tr.length = nets.length) (hok : OkNets ord.length nets ord)
    (hrg : ∀ x ∈ tr, 0 ≤ x ∧ x < 64) (hl1 : nets.length ≤ 64) (hl2 : ord.length ≤ 97) :
    Calls Tryz.prog 76 #[.pointer (some ⟨g, 0, none⟩), .slice r tr.length cc] w fun e w' => e = .returned (.slice (some ⟨w.heap.size, 0, none⟩) ord.length ord.length) ∧ OwnW w' w.heap.size w.heap.size ord.length (takenF (extsOf nets ord) ord.length tr nets.length) ∧ Below w.heap.size w w' := by
  obtain ⟨i0, hInfo, hz0, hz1, hz2⟩ := info_parts wordInfo
  obtain ⟨x, ps, h1, h2, h3, h4⟩ := h
  have ke := h1.cell 99
  rw [rowCells_ext h2] at ke
  have k1 := h1.cell 1
  simp only [rowCells, List.getElem?_cons_zero, List.getElem?_cons_succ] at k1
  have hgl := h1.lt
  have hxl := h4.lt
  have H1 := Lib.hid h1
  have H2 := Lib.hid h2
  have H4 := Lib.hid h4
  have HT := Lib.hid ht
  have HTl := Lib.hid htl
  have HOk := Lib.hid hok
  have HRg := Lib.hid hrg
  clear h1 h2 h3 h4 ht htl hok hrg
  go_enter Tryz.func76, Tryz.ntmps76
  go_wp2_with (at_make; refine wpList_make_full _ rfl _ _ 130 rfl w.heap.size 135 i0 (.int .u64 0) 1 Tryz.underlying130 hInfo hz0 hz1 _ _ _ _ ord.length rfl rfl (by first | rfl | simp) (by first | rfl | simp) ?b2 ?b3 (Nat.le_refl _) ?_)
  case b2 => rw [hz2]; omega
  case b3 => unfold maxLen; omega
  intro w0 hown0 hgrow0
  have hown0 := ownW_made hown0
  have hb0 : Below w.heap.size w w0 := (Below.refl _ _).grown hgrow0 (Nat.le_refl _) (fun k h => by cases h)
  have kc1 := (hb0.cell (p := ⟨g, 99, none⟩) hgl).trans ke
  clear hgrow0 ke k1
  go_wp2
  go_loopw [20] (fun ii wr => ∃ (i : Nat), i ≤ nets.length ∧ ii = .int .i64 i ∧ OwnW wr w.heap.size w.heap.size ord.length (takenF (extsOf nets ord) ord.length tr i) ∧ Below w.heap.size w wr) (fun ii _ => nets.length - (intOf ii).toNat)
  case atStart => exact ⟨0, Nat.zero_le _, rfl, hown0, hb0⟩
  case round =>
    clear kc1 hown0 hb0
    obtain ⟨i, hi, rfl, hown, hb⟩ := hrel
    by_cases h0 : i < nets.length
    · have hE := H4.out.below hb hxl
      have e0 := hE.cell (i * 2)
      have e1 := hE.cell (i * 2 + 1)
      rw [pcells_fst (by rw [extsOf_len]; exact h0), extsOf_get nets ord h0] at e0
      rw [pcells_snd (by rw [extsOf_len]; exact h0), extsOf_get nets ord h0] at e1
      have hxo := ext_ok HOk.out.ord (HOk.out.cols i h0)
      have hs : takenF (extsOf nets ord) ord.length tr (i + 1) = fillF (tr.getD i 0).toNat (extOf ord (nets.getD i (0, [])).2).1.toNat (takenF (extsOf nets ord) ord.length tr i) ((extOf ord (nets.getD i (0, [])).2).2 + 1 - (extOf ord (nets.getD i (0, [])).2).1).toNat := by
        show fillF _ ((extsOf nets ord).getD i (0, 0)).1.toNat _ _ = _
        rw [extsOf_get nets ord h0]
      have hlb := takenF_len (extsOf nets ord) ord.length tr i
      generalize hbs2 : takenF (extsOf nets ord) ord.length tr (i + 1) = bs2 at *
      generalize takenF (extsOf nets ord) ord.length tr i = bs0 at *
      generalize extOf ord (nets.getD i (0, [])).2 = lh at *
      obtain ⟨lo, hi2⟩ := lh
      simp only at e0 e1 hxo hs
      have HS := Lib.hid hs
      have HLb := Lib.hid hlb
      have HB := Lib.hid hb
      clear hE hb hs hlb
      go_upto_region 5 with (fail)
      have B1 : BoxAt (wr.alloc (.cells #[.int .i64 lo, .int .i64 hi2] 40)) wr.heap.size 40 [.int .i64 lo, .int .i64 hi2] := BoxAt.made _ _ _
      have G1 : Below wr.heap.size wr (wr.alloc (.cells #[.int .i64 lo, .int .i64 hi2] 40)) := (Below.refl _ _).alloc (Nat.le_refl _) _
      generalize wr.alloc (.cells #[.int .i64 lo, .int .i64 hi2] 40) = w1 at *
      have HB1 := Lib.hid (HB.out.trans (G1.mono HB.out.size))
      have hown1 := hown.kept G1
      have hne : wr.heap.size ≠ w.heap.size := by have := hown.lt.2; omega
      have hbl := B1.lt
      have BB := Lib.hid B1
      have b0 := B1.cell 0
      simp only [List.getElem?_cons_zero, List.getElem?_cons_succ] at b0
      generalize wr.heap.size = bx at *
      clear G1 HB hown e0 e1 B1
      obtain ⟨l, rfl⟩ : ∃ l : Nat, lo = (l : Int) := ⟨lo.toNat, by omega⟩
      obtain ⟨hN, rfl⟩ : ∃ hN : Nat, hi2 = (hN : Int) := ⟨hi2.toNat, by omega⟩
      go_wp2
      go_loopw [8] (fun pi wj => ∃ (k : Nat) (bs : List Int), l ≤ k ∧ k ≤ hN + 1 ∧ pi = .int .i64 k ∧ Hid (bs = fillF (tr.getD i 0).toNat l bs0 (k - l)) ∧ OwnW wj w.heap.size w.heap.size ord.length bs ∧ BoxAt wj bx 40 [.int .i64 l, .int .i64 hN] ∧ Below w.heap.size w wj) (fun pi _ => hN + 1 - (intOf pi).toNat)
      case atStart => exact ⟨l, bs0, Nat.le_refl _, by omega, rfl, Lib.hid (by rw [Nat.sub_self]; rfl), hown1, BB.out, HB1.out⟩
      case round =>
        clear hown1 BB HB1 b0
        obtain ⟨k, bs, hk1, hk2, rfl, hfill, hown, hbox, hb⟩ := hrel
        have b1 := hbox.cell 1
        simp only [List.getElem?_cons_zero, List.getElem?_cons_succ] at b1
        by_cases h3 : k ≤ hN
        · obtain ⟨gt, ot, rfl, hgt, hct⟩ := (HT.out.below hb).at (i := i) (by rw [HTl.out]; exact h0)
          have hrt := HRg.out _ (getD_mem_int (l := tr) (j := i) (by rw [HTl.out]; exact h0))
          have hkn : k < ord.length := by omega
          have hcb := hown.at k (by rw [hown.len]; exact hkn)
          have hfb := hown.free k
          have hnx : bs.set k (orBit (bs.getD k 0) (tr.getD i 0).toNat) = fillF (tr.getD i 0).toNat l bs0 (k + 1 - l) := by
            rw [hfill.out, show k + 1 - l = (k - l) + 1 by omega]
            show _ = (fillF _ l bs0 (k - l)).set (l + (k - l)) _
            rw [show l + (k - l) = k by omega]
          generalize hti : tr.getD i 0 = ti at *
          obtain ⟨t, rfl⟩ : ∃ t : Nat, ti = (t : Int) := ⟨ti.toNat, by omega⟩
          rw [show ((t : Int)).toNat = t by omega] at hnx
          generalize hbk : bs.getD k 0 = bk at *
          have HNx := Lib.hid hnx
          have HTi := Lib.hid hti
          have HOw := Lib.hid hown
          have HBo := Lib.hid hbox
          have HB := Lib.hid hb
          have hit : i < tr.length := by rw [HTl.out]; exact h0
          have hkn' : (k : Int) < ord.length := by omega
          clear hown hbox hb hnx hfill hti hbk
          go_wp2
          go_region
          have hO2 : OwnW (wr.setCell ⟨w.heap.size, k, none⟩ (.int .u64 (orBit bk t))).drew w.heap.size w.heap.size ord.length (bs.set k (orBit bk t)) := HOw.out.store k _
          have hX2 : BoxAt (wr.setCell ⟨w.heap.size, k, none⟩ (.int .u64 (orBit bk t))).drew bx 40 [.int .i64 l, .int .i64 hN] := HBo.out.other hne k _
          have hB2 : Below w.heap.size w (wr.setCell ⟨w.heap.size, k, none⟩ (.int .u64 (orBit bk t))).drew := (HB.out.setCell (Nat.le_refl _) _).drew
          unfold orBit at hO2 hX2 hB2
          generalize (wr.setCell ⟨w.heap.size, k, none⟩ (.int .u64 (bits .or .u64 bk (IntKind.u64.wrap (2 ^ t))))).drew = w4 at *
          clear hcb hfb hct b1
          go_wp2
          go_roundw
          case rel => exact ⟨k + 1, _, by omega, by omega, by go_num, Lib.hid (by rw [show ((t : Int)).toNat = t by omega]; exact HNx.out), hO2, hX2, hB2⟩
          case measure => simp [intOf]; omega
        · obtain rfl : k = hN + 1 := by omega
          have hfin : bs = bs2 := by
            rw [hfill.out, HS.out]
            congr 1
            omega
          have HO := Lib.hid hown
          have HB := Lib.hid hb
          have HFin := Lib.hid hfin
          have h3' : ¬ ((hN : Int) + 1 ≤ hN) := by omega
          clear hown hb hfill hfin hbox
          go_wp2
          go_roundw
          case rel => exact ⟨i + 1, by omega, by go_num, by rw [hbs2, ← HFin.out]; exact HO.out, HB.out⟩
          case measure => simp [intOf]; omega
    · obtain rfl : i = nets.length := by omega
      have HO := Lib.hid hown
      have HB := Lib.hid hb
      clear hown hb
      go_wp2
      go_ret
      exact ⟨rfl, HO.out, HB.out⟩
end Go.Proofs.YtggcnnpklkmeoaaGreatDoor
end

section
namespace Go.Proofs.YtggcnnpklkmeoaaGreatDoor
open Go.RowKit Go.Shelf Go

attribute [local go_sem] Oper.semAt_some

/-! The taps: a loop over a function. -/

/-- The taps of net i at its first k columns. -/
def colTaps (ord cols : List Int) (i : Nat) (k : Nat) : List (Int × Int) := (cols.take k).map fun c => ((i : Int), posOf c ord)
/-- The taps of the first i nets. -/
def tapsTo (nets : List (Int × List Int)) (ord : List Int) : Nat → List (Int × Int)
  | 0 => []
  | i + 1 => tapsTo nets ord i ++ colTaps ord (nets.getD i (0, [])).2 i (nets.getD i (0, [])).2.length

theorem colTaps_succ (ord : List Int) {cols : List Int} (i : Nat) {k : Nat} (h : k < cols.length) : colTaps ord cols i (k + 1) = colTaps ord cols i k ++ [((i : Int), posOf (cols.getD k 0) ord)] := by
  unfold colTaps; rw [int_take h, List.map_append]; rfl

/-- What a round of the taps keeps. -/
def TapKeep (n₀ Bs : Nat) (W W' : World) : Prop := Below n₀ W W' ∧ W'.cell? ⟨Bs, 0, none⟩ = W.cell? ⟨Bs, 0, none⟩

set_option maxRecDepth 100000 in
set_option maxHeartbeats 4000000 in
/-- The closure of taps. -/
theorem uTaps1_in (F : Fence) (n : Nat) (hF : F.fn 94) (hro : F.round = none) (hn : 1 ≤ n) (l Bs N B : Nat) (g : Nat) (p q : Option Addr) (ca cb : Nat) (nets : List (Int × List Int)) (ord : List Int) (w : World) (hrow : RowAt w g p q ca cb nets ord) (hx : NetsV w p nets)
    (hok : OkNets ord.length nets ord) (hl1 : nets.length ≤ 64) (hl2 : ord.length ≤ 97) (hN : (tapsTo nets ord nets.length).length ≤ N) (J Jx : List (Int × Int) → World → Prop) (hJ : AbidesFrom B J)
    (hY : ∀ pre x W, J pre W → pre.length < N → (0 ≤ x.1 ∧ x.1 < (nets.length : Int)) → (0 ≤ x.2 ∧ x.2 < (ord.length : Int)) → YieldAt F (n - 1) Tryz.prog l #[.int .i64 x.1, .int .i64 x.2] W fun e W' =>
      (e = .returned (.bool true) ∧ J (pre ++ [x]) W' ∧ TapKeep w.heap.size Bs W W') ∨ (e = .returned (.bool false) ∧ Jx (pre ++ [x]) W'))
    (W : World) (hW : Below w.heap.size w W) (hBs : W.cell? ⟨Bs, 0, none⟩ = some (.pointer (some ⟨g, 0, none⟩))) (h0 : J [] W) :
    CallsIn F n Tryz.prog 94 #[.func (.yield l) #[] #[], .pointer (some ⟨Bs, 0, none⟩)] W fun e W' => (∃ v, e = .returned v) ∧ ((∃ xs, xs = tapsTo nets ord nets.length ∧ J xs W') ∨ (∃ pre, True ∧ Jx pre W')) := by
  obtain ⟨x, ps, k1, k2, k3, k4⟩ := hrow
  have hgl := k1.lt
  have HX := Lib.hid hx
  have H1 := Lib.hid k1
  have H2 := Lib.hid k2
  have H3 := Lib.hid k3
  have HOk := Lib.hid hok
  have HN := Lib.hid hN
  have HW := Lib.hid hW
  have c0 := (hW.cell (p := ⟨g, 0, none⟩) hgl).trans (k1.cell 0)
  simp only [rowCells, List.getElem?_cons_zero] at c0
  clear hx k1 k2 k3 k4 hok hN hW
  refine callsIn_of_wp Tryz.func94 rfl hF ?_ hro
  simp only [Tryz.ntmps94, List.size_toArray, List.length_cons, List.length_nil, Nat.reduceAdd, Nat.reduceSub, Array.replicate_succ, Array.replicate_zero, List.push_toArray, List.append_toArray, List.nil_append, List.cons_append]
  gi_wp2
  gi_loopw [12] (fun ii wr => ∃ i : Nat, i ≤ nets.length ∧ ii = .int .i64 i ∧ J (tapsTo nets ord i) wr ∧ Below w.heap.size w wr ∧ wr.cell? ⟨Bs, 0, none⟩ = some (.pointer (some ⟨g, 0, none⟩))) (fun ii _ => nets.length - (intOf ii).toNat)
  case atStart => exact ⟨0, Nat.zero_le _, rfl, h0, HW.out, hBs⟩
  case round =>
    obtain ⟨i, hi, rfl, hJi, hb, hBsr⟩ := hrel
    by_cases h0 : i < nets.length
    · obtain ⟨gn, on, rfl, hgn, hc1, q2, c2, hc2, hq⟩ := HX.out.at (i := i) h0
      have hc1 := (hb.cell (p := ⟨gn, on + i * 2, none⟩) hgn).trans hc1
      have hc2 := (hb.cell (p := ⟨gn, on + i * 2 + 1, none⟩) hgn).trans hc2
      have hcols := HOk.out.cols i h0
      have hord := HOk.out.ord
      have hts : tapsTo nets ord (i + 1) = tapsTo nets ord i ++ colTaps ord (nets.getD i (0, [])).2 i (nets.getD i (0, [])).2.length := rfl
      have hmono : ∀ k, k < (nets.getD i (0, [])).2.length → (tapsTo nets ord i ++ colTaps ord (nets.getD i (0, [])).2 i k).length < N := by
        intro k hk
        have hlt : ∀ m, i + 1 ≤ m → (tapsTo nets ord (i + 1)).length ≤ (tapsTo nets ord m).length := by
          intro m hm
          induction m with
          | zero => omega
          | succ m ih =>
            by_cases e : i + 1 = m + 1
            · rw [e]; exact Nat.le_refl _
            · have := ih (by omega)
              show _ ≤ (tapsTo nets ord m ++ _).length
              rw [List.length_append]
              omega
        have h1 := hlt nets.length (by omega)
        have h2 := HN.out
        rw [hts, List.length_append] at h1
        rw [List.length_append]
        unfold colTaps at h1 ⊢
        rw [List.length_map, List.length_take] at h1 ⊢
        omega
      generalize hti1 : tapsTo nets ord (i + 1) = ti1 at *
      generalize tapsTo nets ord i = ti at *
      generalize nets.getD i (0, []) = nt at *
      obtain ⟨sh, cl⟩ := nt
      simp only at hc1 hc2 hq hcols hts hmono
      have hqm := hq.1
      have HQ := Lib.hid hq
      have HTs := Lib.hid hts
      have HMono := Lib.hid hmono
      have HCols := Lib.hid hcols
      have HB := Lib.hid hb
      have hJa : J ti (wr.alloc (.cells #[.int .i64 sh, .slice q2 cl.length c2] 39)) := hJ _ _ _ none hJi (World.grownBy_alloc _ _ none) (fun r e => by cases e)
      have hBa : (wr.alloc (.cells #[.int .i64 sh, .slice q2 cl.length c2] 39)).cell? ⟨Bs, 0, none⟩ = some (.pointer (some ⟨g, 0, none⟩)) := by
        have hlt : Bs < wr.heap.size := (cell_at hBsr).2
        exact ((Below.refl wr.heap.size wr).alloc (Nat.le_refl _) _).cell (p := ⟨Bs, 0, none⟩) hlt |>.trans hBsr
      have hWa : Below w.heap.size w (wr.alloc (.cells #[.int .i64 sh, .slice q2 cl.length c2] 39)) := hb.alloc hb.size _
      have HJa := Lib.hid hJa
      have HBa := Lib.hid hBa
      have HWa := Lib.hid hWa
      clear hq hts hmono hcols hb hJi hJa hBa hWa hBsr
      gi_wp2
      gi_loopw [20] (fun ki wj => ∃ k : Nat, k ≤ cl.length ∧ ki = .int .i64 k ∧ J (ti ++ colTaps ord cl i k) wj ∧ Below w.heap.size w wj ∧ wj.cell? ⟨Bs, 0, none⟩ = some (.pointer (some ⟨g, 0, none⟩))) (fun ki _ => cl.length - (intOf ki).toNat)
      case atStart => exact ⟨0, Nat.zero_le _, rfl, by rw [show colTaps ord cl i 0 = [] from rfl, List.append_nil]; exact HJa.out, HWa.out, HBa.out⟩
      case round =>
        clear HJa HWa HBa
        obtain ⟨k, hk, rfl, hJk, hb, hBsr⟩ := hrel
        by_cases h1 : k < cl.length
        · obtain ⟨gl, ol, rfl, hgl2, hcl⟩ := HQ.out.at (i := k) h1
          have hcl := (hb.cell (p := ⟨gl, ol + k, none⟩) hgl2).trans hcl
          have hr := HCols.out.2 _ (getD_mem_int h1)
          have hsucc := colTaps_succ ord i h1
          have hlen := HMono.out k h1
          obtain ⟨c, hcc⟩ : ∃ c : Nat, cl.getD k 0 = (c : Int) := ⟨(cl.getD k 0).toNat, by omega⟩
          rw [hcc] at hcl hr hsucc
          have hcn : c < 97 := by omega
          have hpc := (hb.cell (p := ⟨g, 2 + c, none⟩) hgl).trans (H1.out.cell (2 + c))
          rw [rowCells_pos (by rw [H2.out]; exact hcn), H3.out c (by omega)] at hpc
          have hpb := posOf_in (HOk.out.ord.all (c := (c : Int)) (by omega) (by omega))
          generalize posOf (c : Int) ord = pc at *
          generalize ht1 : colTaps ord cl i (k + 1) = t1 at *
          generalize colTaps ord cl i k = t0 at *
          obtain ⟨fn, tmps, assign, body, hy, hR⟩ := hY _ ((i : Int), pc) wr hJk hlen ⟨by dsimp only; omega, by dsimp only; omega⟩ hpb
          dsimp only at hy
          have HB := Lib.hid hb
          have HS := Lib.hid hsucc
          clear hb hsucc hcc hJk
          gi_wp2
          refine hR.mono ?_
          rintro e W3 (⟨rfl, hJ3, hk3⟩ | ⟨rfl, hJx3⟩)
          · have hB3 := HB.out.trans hk3.1
            have hBs3 := hk3.2.trans hBsr
            clear hk3 hcl hpc
            gi_wp2
            go_roundw
            case rel => exact ⟨k + 1, by omega, by simp, by rw [ht1, HS.out, ← List.append_assoc]; exact hJ3, hB3, hBs3⟩
            case measure => simp [intOf]; omega
          · clear hcl hpc
            gi_wp2
            refine bodyPost_ret (results_none rfl _ _ _) rfl ?_
            exact ⟨⟨_, rfl⟩, .inr ⟨_, trivial, hJx3⟩⟩
        · obtain rfl : k = cl.length := by omega
          have hJ2 : J ti1 wr := by rw [HTs.out]; exact hJk
          gi_wp2
          go_roundw
          case rel => exact ⟨i + 1, by omega, by simp, by rw [hti1]; exact hJ2, hb, hBsr⟩
          case measure => simp [intOf]; omega
    · obtain rfl : i = nets.length := by omega
      gi_wp2
      go_end0
      exact ⟨⟨_, rfl⟩, .inl ⟨_, rfl, hJi⟩⟩

/-- A tap: a net and a position. -/
abbrev Tap (m k : Nat) : Type := { x : Nat × Nat // x.1 < m ∧ x.2 < k }
def Tap.pair {m k : Nat} (x : Tap m k) : Int × Int := ((x.1.1 : Int), (x.1.2 : Int))
def tapEncs {m k : Nat} (x : Tap m k) : Array Value := #[.int .i64 (x.1.1 : Int), .int .i64 (x.1.2 : Int)]

/-- The value of taps has its contract. -/
theorem taps_stops (F : Fence) (n : Nat) (hF : F.fn 94) (hro : F.round = none) (hn : 1 ≤ n) (Bs : Nat) (g : Nat) (p q : Option Addr) (ca cb : Nat) (nets : List (Int × List Int)) (ord : List Int) (w w1 : World) (hrow : RowAt w g p q ca cb nets ord) (hx : NetsV w p nets)
    (hok : OkNets ord.length nets ord) (hl1 : nets.length ≤ 64) (hl2 : ord.length ≤ 97) (hW : Below w.heap.size w w1) (hBs : w1.cell? ⟨Bs, 0, none⟩ = some (.pointer (some ⟨g, 0, none⟩))) :
    SeqStopsK F n Tryz.prog 94 #[.pointer (some ⟨Bs, 0, none⟩)] (tapEncs (m := nets.length) (k := ord.length)) (TapKeep w.heap.size Bs) (fun xs => xs.map Tap.pair = tapsTo nets ord nets.length) (fun _ => True) (tapsTo nets ord nets.length).length w1 := fun l J Jx W hW1 hJ _ hY h0 => by
  have hbs : W.cell? ⟨Bs, 0, none⟩ = some (.pointer (some ⟨g, 0, none⟩)) := (hW1.cell (p := ⟨Bs, 0, none⟩) (cell_at hBs).2).trans hBs
  refine (uTaps1_in F n hF hro hn l Bs (tapsTo nets ord nets.length).length W.heap.size g p q ca cb nets ord w hrow hx hok hl1 hl2 (Nat.le_refl _)
    (fun ls W => ∃ l' : List (Tap nets.length ord.length), l'.map Tap.pair = ls ∧ J l' W) (fun ls W => ∃ l' : List (Tap nets.length ord.length), l'.map Tap.pair = ls ∧ Jx l' W)
    (fun s A B row hs hg hr => by obtain ⟨l', e, h⟩ := hs; exact ⟨l', e, hJ l' A B row h hg hr⟩) ?_ W (hW.trans (hW1.mono hW.size)) hbs ⟨[], rfl, h0⟩).mono ?_
  · rintro pre x W' ⟨l', rfl, hJ'⟩ hlen hb1 hb2
    rw [List.length_map] at hlen
    have hy := hY l' ⟨(x.1.toNat, x.2.toNat), by dsimp only; omega⟩ W' hJ' hlen
    have he : tapEncs (m := nets.length) (k := ord.length) ⟨(x.1.toNat, x.2.toNat), by dsimp only; omega⟩ = #[.int .i64 x.1, .int .i64 x.2] := by
      unfold tapEncs
      dsimp only
      rw [show ((x.1.toNat : Nat) : Int) = x.1 by omega, show ((x.2.toNat : Nat) : Int) = x.2 by omega]
    rw [he] at hy
    have hp : Tap.pair (m := nets.length) (k := ord.length) ⟨(x.1.toNat, x.2.toNat), by dsimp only; omega⟩ = x := by
      unfold Tap.pair
      dsimp only
      rw [show ((x.1.toNat : Nat) : Int) = x.1 by omega, show ((x.2.toNat : Nat) : Int) = x.2 by omega]
    refine hy.mono ?_
    rintro e W2 (⟨h1, h2, h3⟩ | ⟨h1, h2⟩)
    · exact .inl ⟨h1, ⟨_, by rw [List.map_append, List.map_cons, List.map_nil, hp], h2⟩, h3⟩
    · exact .inr ⟨h1, ⟨_, by rw [List.map_append, List.map_cons, List.map_nil, hp], h2⟩⟩
  · rintro e W' ⟨hv, ⟨xs, rfl, l', e1, h⟩ | ⟨pre, _, l', _, h⟩⟩
    · exact ⟨hv, .inl ⟨l', e1, h⟩⟩
    · exact ⟨hv, .inr ⟨l', trivial, h⟩⟩
end Go.Proofs.YtggcnnpklkmeoaaGreatDoor
end

