import Derived.Test.YtggcnnpklkmeoaaGreatDoorWE
import Derived.Test.YtggcnnpklkmeoaaGreatDoorWA
import Derived.Laws.AppendOwn
import Derived.OwnWalk
import Derived.Deep.RegionHeld3
section
namespace Go.Proofs.YtggcnnpklkmeoaaGreatDoor
open Go.RowKit Go

/-- The tracks below k that a layout has. -/
def usedTo (tr : List Int) : Nat → List Int
  | 0 => []
  | k + 1 => usedTo tr k ++ if (k : Int) ∈ tr then [(k : Int)] else []

theorem usedTo_le (tr : List Int) : ∀ k, (usedTo tr k).length ≤ k
  | 0 => Nat.le_refl _
  | k + 1 => by have := usedTo_le tr k; unfold usedTo; split <;> simp <;> omega

set_option maxRecDepth 100000 in
set_option maxHeartbeats 1600000 in
/-- used of the reference of chapter 7. -/
theorem bUsed_any (v : Value) (x : List Int × List Int) (w : World) (hv : LayV w v x) :
    Calls Tryz.prog 61 #[v] w fun e w' => ∃ u, e = .returned u ∧ (∃ p c, u = .slice p (usedTo x.2 64).length c ∧ IntV w' p (usedTo x.2 64) ∧ (usedTo x.2 64).length ≤ c) ∧ Below w.heap.size w w' := by
  obtain ⟨q, cb, r, cc, rfl, ho, ht, hcap, hcap2⟩ := hv
  obtain ⟨ord, tr⟩ := x
  simp only at ho ht hcap hcap2 ⊢
  obtain ⟨i0, hi, hz0, hz1, hz2⟩ := info_parts intInfo
  have KI := Lib.hid (fun W (y : Int) (h : Below w.heap.size w W) => bIn_any r cc tr y W (ht.below h))
  clear ho ht hcap hcap2
  go_enter Tryz.func61, Tryz.ntmps61
  go_wp2
  have G0 : Below w.heap.size w (w.alloc (.cells #[.slice q ord.length cb, .slice r tr.length cc] 49)) := (Below.refl _ _).alloc (Nat.le_refl _) _
  have G2 : (w.alloc (.cells #[.slice q ord.length cb, .slice r tr.length cc] 49)).cell? ⟨w.heap.size, 1, none⟩ = some (.slice r tr.length cc) := by go_simp
  have G3 : w.heap.size < (w.alloc (.cells #[.slice q ord.length cb, .slice r tr.length cc] 49)).heap.size := by simp
  generalize w.alloc (.cells #[.slice q ord.length cb, .slice r tr.length cc] 49) = W0 at *
  have HF := Lib.hid (fun W (h : Below W0.heap.size W0 W) => ((h.cell (p := ⟨w.heap.size, 1, none⟩) G3).trans G2 : W.cell? ⟨w.heap.size, 1, none⟩ = some (.slice r tr.length cc)))
  have HL := Lib.hid (fun W (h : Below W0.heap.size W0 W) => G0.trans (h.mono G0.size))
  clear G0 G2 G3
  go_loopw [3, 4] (fun vi ii wr => ∃ (k : Nat) (v : Value), k ≤ 64 ∧ ii = .int .i64 k ∧ vi = v ∧ wr.ownsRow W0.heap.size 3 1 v (usedTo tr k).length ((usedTo tr k).map (Value.int .i64)) ∧ Below W0.heap.size W0 wr) (fun _ ii _ => 64 - (intOf ii).toNat)
  case atStart => exact ⟨0, _, Nat.zero_le _, rfl, rfl, World.ownsRow_nil _ _ _ _, Below.refl _ _⟩
  case round =>
    obtain ⟨k, v, hk, rfl, hv, hown, hb⟩ := hrel
    replace hv := hv.symm
    subst hv
    have c2 := HF.out wr hb
    have hlk := usedTo_le tr k
    by_cases h0 : k < 64
    · have hs : usedTo tr (k + 1) = usedTo tr k ++ if (k : Int) ∈ tr then [(k : Int)] else [] := rfl
      have HS := Lib.hid hs
      have HB := Lib.hid hb
      have HOwn := Lib.hid hown
      have K := Lib.hid (KI.out wr (k : Int) (HL.out _ hb))
      clear hs
      by_cases h3 : (k : Int) ∈ tr
      · have hd3 : decide ((k : Int) ∈ tr) = true := decide_eq_true h3
        have hz : usedTo tr (k + 1) = usedTo tr k ++ [(k : Int)] := by rw [HS.out, if_pos h3]
        have HZ := Lib.hid hz
        have hsz := hb.size
        clear hz
        go_wp2_with (first | (go_at_call 45; with_reducible refine K.out.mono ?_; rintro e w1 ⟨rfl, rfl⟩) | (at_builtin; refine wpList_append_own _ rfl _ _ 23 rfl W0.heap.size 3 i0 (.int .i64 0) 1 8 Tryz.underlying23 hi hz0 hz1 hz2 rfl (by decide) _ _ _ rfl (hown.alloc _) ⟨wr.heap.size, 0, none⟩ 1 1 [.int .i64 (k : Int)] rfl rfl ?c1 ?c2 ?c3 ?c4 ?c5 ?_))
        case c1 =>
          intro j u hj
          match j, hj with
          | 0, hj => simp at hj; subst hj; simp [Addr.add]
        case c2 => intro u hu; simp at hu; subst hu; rfl
        case c3 => unfold maxLen; omega
        case c4 => omega
        case c5 => simp; omega
        intro v' w1 hown' hgrow _
        have hlt := (hown.alloc (.cells #[.int .i64 (k : Int)] 3)).lt
        have hbel : Below W0.heap.size W0 w1 := (HB.out.alloc HB.out.size _).grown hgrow (by simp; omega) fun b hb => (hlt b hb).1
        have hown2 : w1.ownsRow W0.heap.size 3 1 v' (usedTo tr (k + 1)).length ((usedTo tr (k + 1)).map (Value.int .i64)) := by
          rw [HZ.out, List.length_append, List.map_append]; exact hown'
        clear hown hown' hgrow hlt
        go_wp2
        go_roundw
        case rel => exact ⟨k + 1, _, by omega, by go_num, rfl, hown2, hbel⟩
        case measure => simp [intOf]; omega
      · have hd3 : decide ((k : Int) ∈ tr) = false := decide_eq_false h3
        have hz : usedTo tr (k + 1) = usedTo tr k := by rw [HS.out, if_neg h3, List.append_nil]
        have hown2 : wr.ownsRow W0.heap.size 3 1 v (usedTo tr (k + 1)).length ((usedTo tr (k + 1)).map (Value.int .i64)) := by rw [hz]; exact hown
        have HO2 := Lib.hid hown2
        clear hz hown hown2
        go_wp2_with (go_at_call 45; refine K.out.mono ?_; rintro e w1 ⟨rfl, rfl⟩)
        go_roundw
        case rel => exact ⟨k + 1, _, by omega, by go_num, rfl, HO2.out, HB.out⟩
        case measure => simp [intOf]; omega
    · obtain rfl : k = 64 := by omega
      have hres := IntV.of_owns hown (by omega)
      have HR := Lib.hid hres
      have HB := Lib.hid hb
      clear hown hres hb
      go_wp2
      go_ret
      exact ⟨_, rfl, HR.out, HL.out _ HB.out⟩
end Go.Proofs.YtggcnnpklkmeoaaGreatDoor
end

section
namespace Go.Proofs.YtggcnnpklkmeoaaGreatDoor
open Go.RowKit Go

/-- The nets below k that cover a position. -/
def coverTo (nets : List (Int × List Int)) (ord : List Int) (p : Int) : Nat → List Int
  | 0 => []
  | k + 1 => coverTo nets ord p k ++ if covB ord (nets.getD k (0, [])).2 p = true then [(k : Int)] else []

theorem coverTo_le (nets : List (Int × List Int)) (ord : List Int) (p : Int) : ∀ k, (coverTo nets ord p k).length ≤ k
  | 0 => Nat.le_refl _
  | k + 1 => by have := coverTo_le nets ord p k; unfold coverTo; split <;> simp <;> omega

/-- The fullest one of the first k positions: its nets, and where it is. -/
def bestTo (nets : List (Int × List Int)) (ord : List Int) : Nat → List Int × Int
  | 0 => ([], 0)
  | k + 1 => if (bestTo nets ord k).1.length < (coverTo nets ord k nets.length).length then (coverTo nets ord k nets.length, (k : Int)) else bestTo nets ord k

theorem bestTo_le (nets : List (Int × List Int)) (ord : List Int) : ∀ k, (bestTo nets ord k).1.length ≤ nets.length
  | 0 => Nat.zero_le _
  | k + 1 => by
    unfold bestTo
    split
    · exact coverTo_le _ _ _ _
    · exact bestTo_le nets ord k

set_option maxHeartbeats 4000000 in
/-- Clique of the reference of chapter 7. -/
theorem bClique_any (p q : Option Addr) (ca cb : Nat) (nets : List (Int × List Int)) (ord : List Int) (w : World) (hx : NetsV w p nets) (ho : IntV w q ord) :
    Calls Tryz.prog 23 #[.slice p nets.length ca, .slice q ord.length cb] w fun e w' => ∃ u, e = .returned (.tuple #[u, .int .i64 (bestTo nets ord ord.length).2]) ∧ IntsAt w' u (bestTo nets ord ord.length).1 ∧ Below w.heap.size w w' := by
  have hm := hx.1
  have hm2 := ho.1
  obtain ⟨i0, hi, hz0, hz1, hz2⟩ := info_parts intInfo
  have KC := Lib.hid (fun W (v : Value) (x : Int × List Int) (at_ : Int) (h : Below w.heap.size w W) (hv : NetV W v x) => bCovers_any v x q cb ord at_ W hv (ho.below h))
  have HX := Lib.hid hx
  clear hx ho
  go_enter Tryz.func23, Tryz.ntmps23
  go_wp2
  go_loopw [6, 7, 8] (fun vi ai ii wr => ∃ (k : Nat) (v : Value) (a : Int), k ≤ ord.length ∧ ii = .int .i64 k ∧ vi = v ∧ ai = .int .i64 a ∧ Hid ((bestTo nets ord k).2 = a) ∧ IntsAt wr v (bestTo nets ord k).1 ∧ Below w.heap.size w wr) (fun _ _ ii _ => ord.length - (intOf ii).toNat)
  case atStart => exact ⟨0, _, 0, Nat.zero_le _, rfl, rfl, rfl, Lib.hid rfl, IntsAt.nil _, Below.refl _ _⟩
  case round =>
    obtain ⟨k, v, a, hk, rfl, hv, rfl, hrel, hv2, hb⟩ := hrel
    replace hv := hv.symm
    subst hv
    have hbl := bestTo_le nets ord k
    obtain ⟨pv, cv, rfl, hiv, hcv⟩ := hv2
    by_cases h0 : k < ord.length
    · go_wp2
      obtain ⟨wo, hwo⟩ : ∃ wo : World, wo = wr := ⟨_, rfl⟩
      rw [← hwo] at hb hiv
      have HBo := Lib.hid hb
      have HIV := Lib.hid hiv
      rw [← hwo]
      clear hwo hb hiv
      go_loopw [9, 10] (fun li ji wj => ∃ (j : Nat) (l : Value), j ≤ nets.length ∧ ji = .int .i64 j ∧ li = l ∧ wj.ownsRow wo.heap.size 3 1 l (coverTo nets ord k j).length ((coverTo nets ord k j).map (Value.int .i64)) ∧ Below wo.heap.size wo wj) (fun _ ji _ => nets.length - (intOf ji).toNat)
      case atStart => exact ⟨0, _, Nat.zero_le _, rfl, rfl, World.ownsRow_nil _ _ _ _, Below.refl _ _⟩
      case round =>
        obtain ⟨j, l, hj, rfl, hl, hown, hbj⟩ := hrel
        replace hl := hl.symm
        subst hl
        have hlj := coverTo_le nets ord k j
        by_cases h1 : j < nets.length
        · have hbw : Below w.heap.size w wr := HBo.out.trans (hbj.mono HBo.out.size)
          obtain ⟨g, o, rfl, hg, hc1, q2, c2, hc2, hq⟩ := (HX.out.below hbw).at (i := j) h1
          have hs : coverTo nets ord k (j + 1) = coverTo nets ord k j ++ if covB ord (nets.getD j (0, [])).2 k = true then [(j : Int)] else [] := rfl
          generalize nets.getD j (0, []) = n at *
          obtain ⟨sh, cols⟩ := n
          simp only at hc1 hc2 hq hs
          have K := Lib.hid (KC.out wr (.agg #[.int .i64 sh, .slice q2 cols.length c2]) (sh, cols) (k : Int) hbw ⟨q2, c2, rfl, hq⟩)
          simp only at K
          have HS := Lib.hid hs
          have HBJ := Lib.hid hbj
          have hsz := hbj.size
          clear hs hq hbw
          cases hcov : covB ord cols k with
          | true =>
            have hz : coverTo nets ord k (j + 1) = coverTo nets ord k j ++ [(j : Int)] := by rw [HS.out, if_pos hcov]
            have HZ := Lib.hid hz
            have HOwn := Lib.hid hown
            clear hz hown hbj
            go_wp2_with fail
            refine K.out.mono ?_
            rintro e w1 ⟨rfl, hb1⟩
            have hown1 : w1.ownsRow wo.heap.size 3 1 l (coverTo nets ord k j).length ((coverTo nets ord k j).map (Value.int .i64)) := HOwn.out.kept (row := none) ⟨hb1.os, hb1.tape, hb1.output, hb1.size, fun b hb _ => hb1.block b hb⟩ (by cases l.ownBlock <;> simp)
            have hb1' : Below wo.heap.size wo w1 := HBJ.out.trans (hb1.mono HBJ.out.size)
            have hsz1 := hb1'.size
            have HB1 := Lib.hid hb1'
            have HOwn1 := Lib.hid hown1
            clear hb1 hb1'
            go_wp2_with (at_builtin; refine wpList_append_own _ rfl _ _ 23 rfl wo.heap.size 3 i0 (.int .i64 0) 1 8 Tryz.underlying23 hi hz0 hz1 hz2 rfl (by decide) _ _ _ rfl (hown1.alloc _) ⟨w1.heap.size, 0, none⟩ 1 1 [.int .i64 (j : Int)] rfl rfl ?c1 ?c2 ?c3 ?c4 ?c5 ?_)
            case c1 =>
              intro j u hj
              match j, hj with
              | 0, hj => simp at hj; subst hj; simp [Addr.add]
            case c2 => intro u hu; simp at hu; subst hu; rfl
            case c3 => unfold maxLen; omega
            case c4 => omega
            case c5 => simp; omega
            intro v' w2 hown' hgrow _
            have hlt := (hown1.alloc (.cells #[.int .i64 (j : Int)] 3)).lt
            have hbel : Below wo.heap.size wo w2 := (HB1.out.alloc HB1.out.size _).grown hgrow (by simp; omega) fun b hb => (hlt b hb).1
            have hown2 : w2.ownsRow wo.heap.size 3 1 v' (coverTo nets ord k (j + 1)).length ((coverTo nets ord k (j + 1)).map (Value.int .i64)) := by
              rw [HZ.out, List.length_append, List.map_append]; exact hown'
            clear hown1 hown' hgrow hlt
            go_wp2
            go_roundw
            case rel => exact ⟨j + 1, _, by omega, by go_num, rfl, hown2, hbel⟩
            case measure => simp [intOf]; omega
          | false =>
            have hz : coverTo nets ord k (j + 1) = coverTo nets ord k j := by rw [HS.out, if_neg (by rw [hcov]; decide), List.append_nil]
            have HZ := Lib.hid hz
            have HOwn := Lib.hid hown
            clear hz hown hbj
            go_wp2_with fail
            refine K.out.mono ?_
            rintro e w1 ⟨rfl, hb1⟩
            have hown1 : w1.ownsRow wo.heap.size 3 1 l (coverTo nets ord k (j + 1)).length ((coverTo nets ord k (j + 1)).map (Value.int .i64)) := by
              rw [HZ.out]
              exact HOwn.out.kept (row := none) ⟨hb1.os, hb1.tape, hb1.output, hb1.size, fun b hb _ => hb1.block b hb⟩ (by cases l.ownBlock <;> simp)
            have hb1' : Below wo.heap.size wo w1 := HBJ.out.trans (hb1.mono HBJ.out.size)
            have HB1 := Lib.hid hb1'
            have HOwn1 := Lib.hid hown1
            clear hb1 hb1' hown1
            go_wp2
            go_roundw
            case rel => exact ⟨j + 1, _, by omega, by go_num, rfl, HOwn1.out, HB1.out⟩
            case measure => simp [intOf]; omega
        · obtain rfl : j = nets.length := by omega
          have hnew := IntV.of_owns hown (by omega)
          obtain ⟨pl, cl, rfl, hil, hcl⟩ := hnew
          have hs : bestTo nets ord (k + 1) = if (bestTo nets ord k).1.length < (coverTo nets ord k nets.length).length then (coverTo nets ord k nets.length, (k : Int)) else bestTo nets ord k := rfl
          have HS := Lib.hid hs
          have HB2 := Lib.hid (HBo.out.trans (hbj.mono HBo.out.size))
          have HIL := Lib.hid hil
          have HIV2 := Lib.hid (HIV.out.below hbj)
          clear hs hown hbj hil
          by_cases h2 : (bestTo nets ord k).1.length < (coverTo nets ord k nets.length).length
          · have hz : bestTo nets ord (k + 1) = (coverTo nets ord k nets.length, (k : Int)) := by rw [HS.out, if_pos h2]
            have hrelN : IntsAt wr (.slice pl (coverTo nets ord k nets.length).length cl) (bestTo nets ord (k + 1)).1 := by rw [hz]; exact ⟨_, _, rfl, HIL.out, hcl⟩
            have hsec : (bestTo nets ord (k + 1)).2 = (k : Int) := by rw [hz]
            have HRN := Lib.hid hrelN
            have HSec := Lib.hid hsec
            clear hz hrelN hsec
            go_wp2
            go_roundw
            case rel => exact ⟨k + 1, _, (k : Int), by omega, by go_num, rfl, rfl, HSec, HRN.out, HB2.out⟩
            case measure => simp [intOf]; omega
          · have hz : bestTo nets ord (k + 1) = bestTo nets ord k := by rw [HS.out, if_neg h2]
            have hrelN : IntsAt wr (.slice pv (bestTo nets ord k).1.length cv) (bestTo nets ord (k + 1)).1 := by rw [hz]; exact ⟨_, _, rfl, HIV2.out, hcv⟩
            have hsec : (bestTo nets ord (k + 1)).2 = a := by rw [hz]; exact hrel.out
            have HRN := Lib.hid hrelN
            have HSec := Lib.hid hsec
            clear hz hrelN hsec
            go_wp2
            go_roundw
            case rel => exact ⟨k + 1, _, a, by omega, by go_num, rfl, rfl, HSec, HRN.out, HB2.out⟩
            case measure => simp [intOf]; omega
    · obtain rfl : k = ord.length := by omega
      have HB := Lib.hid hb
      have HIV := Lib.hid hiv
      obtain rfl := hrel.out
      clear hb hiv
      go_wp2
      go_ret2
      exact ⟨_, rfl, ⟨_, _, rfl, HIV.out, hcv⟩, HB.out⟩
end Go.Proofs.YtggcnnpklkmeoaaGreatDoor
end

section
namespace Go.Proofs.YtggcnnpklkmeoaaGreatDoor
open Go.RowKit Go

/-- The nets on a track that the first k cross-shafts of some columns cross. -/
def colSum (nets : List (Int × List Int)) (ord tr cols : List Int) (below : Int) : Nat → Nat
  | 0 => 0
  | k + 1 => colSum nets ord tr cols below k + overN nets ord tr below (posOf (cols.getD k 0) ord) nets.length

/-- The crossings of the nets on one track with the cross-shafts of the first i nets on another one. -/
def underTo (nets : List (Int × List Int)) (ord tr : List Int) (below above : Int) : Nat → Nat
  | 0 => 0
  | i + 1 => underTo nets ord tr below above i + if tr.getD i 0 = above then colSum nets ord tr (nets.getD i (0, [])).2 below (nets.getD i (0, [])).2.length else 0

theorem colSum_le (nets : List (Int × List Int)) (ord tr cols : List Int) (below : Int) : ∀ k, colSum nets ord tr cols below k ≤ k * nets.length
  | 0 => Nat.zero_le _
  | k + 1 => by
    have := colSum_le nets ord tr cols below k
    have := overN_le nets ord tr below (posOf (cols.getD k 0) ord) nets.length
    unfold colSum
    rw [Nat.add_mul]; omega

def lens (nets : List (Int × List Int)) : Prop := nets.length ≤ 1000 ∧ ∀ n ∈ nets, n.2.length ≤ 1000

set_option maxRecDepth 100000 in
theorem underTo_le {nets : List (Int × List Int)} (h : lens nets) (ord tr : List Int) (below above : Int) : ∀ i, i ≤ nets.length → underTo nets ord tr below above i ≤ i * 1000000
  | 0, _ => Nat.zero_le _
  | i + 1, hi => by
    have := underTo_le h ord tr below above i (by omega)
    have h1 := colSum_le nets ord tr (nets.getD i (0, [])).2 below (nets.getD i (0, [])).2.length
    have h2 : (nets.getD i (0, [])).2.length ≤ 1000 := by
      refine h.2 _ ?_
      rw [List.getD_eq_getElem?_getD, List.getElem?_eq_getElem (by omega)]; exact List.getElem_mem _
    have h3 : (nets.getD i (0, [])).2.length * nets.length ≤ 1000000 := Nat.le_trans (Nat.mul_le_mul h2 h.1) (by decide)
    have h4 : colSum nets ord tr (nets.getD i (0, [])).2 below (nets.getD i (0, [])).2.length ≤ 1000000 := Nat.le_trans h1 h3
    show underTo nets ord tr below above i + (if tr.getD i 0 = above then colSum nets ord tr (nets.getD i (0, [])).2 below (nets.getD i (0, [])).2.length else 0) ≤ _
    generalize colSum nets ord tr (nets.getD i (0, [])).2 below (nets.getD i (0, [])).2.length = c at *
    generalize underTo nets ord tr below above i = u at *
    clear h1 h2 h3
    rw [Nat.add_mul]
    by_cases h5 : tr.getD i 0 = above
    · rw [if_pos h5]; exact Nat.add_le_add this (by rw [Nat.one_mul]; exact h4)
    · rw [if_neg h5]; exact Nat.add_le_add this (Nat.zero_le _)

set_option maxHeartbeats 4000000 in
set_option maxRecDepth 100000 in
/-- Under of the reference of chapter 7. -/
theorem bUnder_any (v : Value) (x : List Int × List Int) (p : Option Addr) (ca : Nat) (nets : List (Int × List Int)) (below above : Int) (w : World) (hx : NetsV w p nets) (hv : LayV w v x) (hlens : lens nets) (htl : nets.length ≤ x.2.length) :
    Calls Tryz.prog 62 #[.slice p nets.length ca, v, .int .i64 below, .int .i64 above] w fun e w' => e = .returned (.int .i64 (underTo nets x.1 x.2 below above nets.length)) ∧ Below w.heap.size w w' := by
  obtain ⟨q, cb, r, cc, rfl, ho, ht, hcap, hcap2⟩ := hv
  obtain ⟨ord, tr⟩ := x
  simp only at ho ht hcap hcap2 htl ⊢
  have hm := hlens.1
  have HLens := Lib.hid hlens
  have KP := Lib.hid (fun W (y : Int) (h : Below w.heap.size w W) => (bPosition_any q cb ord y W (ho.below h)).mono fun e w' (k : e = .returned (.int .i64 (posOf y ord)) ∧ W = w') => (⟨k.1, k.2.symm⟩ : e = .returned (.int .i64 (posOf y ord)) ∧ w' = W))
  have KV := Lib.hid (fun W (y : Int) (h : Below w.heap.size w W) => bOver_any p q r ca cb cc nets ord tr below y W (hx.below h) (ho.below h) (ht.below h) htl)
  have HX := Lib.hid hx
  have HT := Lib.hid ht
  clear hx ho ht hcap hcap2 hlens
  go_enter Tryz.func62, Tryz.ntmps62
  go_wp2
  have G0 : Below w.heap.size w (w.alloc (.cells #[.slice q ord.length cb, .slice r tr.length cc] 49)) := (Below.refl _ _).alloc (Nat.le_refl _) _
  have G1 : (w.alloc (.cells #[.slice q ord.length cb, .slice r tr.length cc] 49)).cell? ⟨w.heap.size, 0, none⟩ = some (.slice q ord.length cb) := by go_simp
  have G2 : (w.alloc (.cells #[.slice q ord.length cb, .slice r tr.length cc] 49)).cell? ⟨w.heap.size, 1, none⟩ = some (.slice r tr.length cc) := by go_simp
  have G3 : w.heap.size < (w.alloc (.cells #[.slice q ord.length cb, .slice r tr.length cc] 49)).heap.size := by simp
  generalize w.alloc (.cells #[.slice q ord.length cb, .slice r tr.length cc] 49) = W0 at *
  have HF := Lib.hid (fun W (h : Below W0.heap.size W0 W) => (⟨(h.cell (p := ⟨w.heap.size, 0, none⟩) G3).trans G1, (h.cell (p := ⟨w.heap.size, 1, none⟩) G3).trans G2⟩ : W.cell? ⟨w.heap.size, 0, none⟩ = some (.slice q ord.length cb) ∧ W.cell? ⟨w.heap.size, 1, none⟩ = some (.slice r tr.length cc)))
  have HL := Lib.hid (fun W (h : Below W0.heap.size W0 W) => G0.trans (h.mono G0.size))
  clear G0 G1 G2 G3
  go_loopw [9, 10] (fun si ii wr => ∃ (i s : Nat), i ≤ nets.length ∧ ii = .int .i64 i ∧ si = .int .i64 s ∧ Hid (s = underTo nets ord tr below above i) ∧ Below W0.heap.size W0 wr) (fun _ ii _ => nets.length - (intOf ii).toNat)
  case atStart => exact ⟨0, 0, Nat.zero_le _, rfl, rfl, Lib.hid rfl, Below.refl _ _⟩
  case round =>
    obtain ⟨i, s, hi, rfl, rfl, hrel, hb⟩ := hrel
    obtain ⟨c1, c2⟩ := HF.out wr hb
    have hsb : s ≤ i * 1000000 := by rw [hrel.out]; exact underTo_le HLens.out _ _ _ _ i hi
    by_cases h0 : i < nets.length
    · have hbw := HL.out _ hb
      obtain ⟨g, o, rfl, hg, hc1, q2, cp2, hc2, hq⟩ := (HX.out.below hbw).at (i := i) h0
      obtain ⟨gt, ot, rfl, hgt, hct⟩ := (HT.out.below hbw).at (i := i) (by omega)
      have hs : underTo nets ord tr below above (i + 1) = s + if tr.getD i 0 = above then colSum nets ord tr (nets.getD i (0, [])).2 below (nets.getD i (0, [])).2.length else 0 := by rw [hrel.out]; rfl
      have hnl : (nets.getD i (0, [])).2.length ≤ 1000 := by
        refine HLens.out.2 _ ?_
        rw [List.getD_eq_getElem?_getD, List.getElem?_eq_getElem h0]; exact List.getElem_mem _
      generalize nets.getD i (0, []) = n at *
      obtain ⟨sh, cols⟩ := n
      generalize tr.getD i 0 = t at *
      simp only at hc1 hc2 hq hs hnl
      have HS := Lib.hid hs
      have HB := Lib.hid hb
      have HQ := Lib.hid hq
      clear hs hb hq
      by_cases h1 : t = above
      · have h1' : (t != above) = false := by simp [h1]
        have hz : underTo nets ord tr below above (i + 1) = s + colSum nets ord tr cols below cols.length := by rw [HS.out, if_pos h1]
        have HZ := Lib.hid hz
        clear hz h1
        go_wp2
        obtain ⟨wo, hwo⟩ : ∃ wo : World, wo = wr := ⟨_, rfl⟩
        rw [← hwo] at HB HQ hc1 hc2 hg hbw
        have HBW := Lib.hid hbw
        have HC2 := Lib.hid hc2
        rw [← hwo]
        clear hwo hbw hc1 hc2 hct c1 c2
        go_loopw [9, 11] (fun ti ki wj => ∃ (k u : Nat), k ≤ cols.length ∧ ki = .int .i64 k ∧ ti = .int .i64 u ∧ Hid (u = s + colSum nets ord tr cols below k) ∧ Below wo.heap.size wo wj) (fun _ ki _ => cols.length - (intOf ki).toNat)
        case atStart => exact ⟨0, s, Nat.zero_le _, rfl, rfl, Lib.hid rfl, Below.refl _ _⟩
        case round =>
          obtain ⟨k, u, hk, rfl, rfl, hrel2, hbj⟩ := hrel
          have hcell : wr.cell? ⟨g, o + i * 2 + 1, none⟩ = some (.slice q2 cols.length cp2) := (hbj.cell (p := ⟨g, o + i * 2 + 1, none⟩) hg).trans HC2.out
          have hgr : g < wr.heap.size := Nat.lt_of_lt_of_le hg hbj.size
          obtain ⟨c1, c2⟩ := HF.out wr (HB.out.trans (hbj.mono HB.out.size))
          have hub : u ≤ s + k * nets.length := by rw [hrel2.out]; have := colSum_le nets ord tr cols below k; omega
          have hkn : k * nets.length ≤ 1000 * 1000 := Nat.mul_le_mul (by omega) hm
          by_cases h6 : k < cols.length
          · obtain ⟨gq, oq, rfl, hgq, hcq⟩ := (HQ.out.below hbj).at (i := k) h6
            have hs2 : colSum nets ord tr cols below (k + 1) = colSum nets ord tr cols below k + overN nets ord tr below (posOf (cols.getD k 0) ord) nets.length := rfl
            generalize cols.getD k 0 = y at *
            have hon := overN_le nets ord tr below (posOf y ord) nets.length
            have hbw2 : Below w.heap.size w wr := HBW.out.trans (hbj.mono HBW.out.size)
            have HBW2 := Lib.hid hbw2
            have HDW := Lib.hid (hbw2.drew)
            have KPos := Lib.hid (fun W (h : Below w.heap.size w W) => KP.out W y h)
            have KOver := Lib.hid (fun W (h : Below w.heap.size w W) => KV.out W (posOf y ord) h)
            generalize posOf y ord = py at *
            generalize hov : overN nets ord tr below py nets.length = ov at *
            have hnew : u + ov = s + colSum nets ord tr cols below (k + 1) := by rw [hrel2.out, hs2]; omega
            have HNew := Lib.hid hnew
            have HBJ := Lib.hid hbj
            have hu2 : u ≤ 10000000000 := by
              have : i * 1000000 ≤ 1000 * 1000000 := Nat.mul_le_mul_right _ (by omega)
              omega
            have hov2 : ov ≤ 1000 := by omega
            have HUb := Lib.hid hub
            have hwrap : IntKind.i64.wrap ((u : Int) + (ov : Int)) = (u : Int) + (ov : Int) := IntWalk.i64_in _ (by omega)
            have HWrap := Lib.hid hwrap
            clear hwrap
            clear hs2 hnew hbj hbw2 hov hub hkn hon hsb
            have HK := Lib.hid (fun W (h : Below wr.heap.size wr W) => (⟨h, (h.cell (p := ⟨w.heap.size, 0, none⟩) (World.block_lt_of_cell? wr _ c1)).trans c1, (h.cell (p := ⟨w.heap.size, 1, none⟩) (World.block_lt_of_cell? wr _ c2)).trans c2, (h.cell (p := ⟨g, o + i * 2 + 1, none⟩) hgr).trans hcell, (h.cell (p := ⟨gq, oq + k, none⟩) hgq).trans hcq⟩ :
              Below wr.heap.size wr W ∧ W.cell? ⟨w.heap.size, 0, none⟩ = some (.slice q ord.length cb) ∧ W.cell? ⟨w.heap.size, 1, none⟩ = some (.slice (some ⟨gt, ot, none⟩) tr.length cc) ∧ W.cell? ⟨g, o + i * 2 + 1, none⟩ = some (.slice (some ⟨gq, oq, none⟩) cols.length cp2) ∧ W.cell? ⟨gq, oq + k, none⟩ = some (.int .i64 y)))
            go_wp2
            go_region_held3 (fun w' => Below wr.heap.size wr w' ∧ w'.cell? ⟨w.heap.size, 0, none⟩ = some (.slice q ord.length cb) ∧ w'.cell? ⟨w.heap.size, 1, none⟩ = some (.slice (some ⟨gt, ot, none⟩) tr.length cc) ∧ w'.cell? ⟨g, o + i * 2 + 1, none⟩ = some (.slice (some ⟨gq, oq, none⟩) cols.length cp2) ∧ w'.cell? ⟨gq, oq + k, none⟩ = some (.int .i64 y))
              (first | exact HK.out _ (Below.refl _ _).drew | assumption | exact HK.out _ (Below.trans (‹Below wr.heap.size wr _ ∧ _›).1 (Below.mono (by assumption) (‹Below wr.heap.size wr _ ∧ _›).1.size)))
              (first
                | (go_at_call 46; refine (KPos.out _ ?_).mono ?_; (exact HBW2.out.trans (Below.mono (‹Below wr.heap.size wr _ ∧ _›).1 HBW2.out.size)); rintro e w' ⟨rfl, rfl⟩)
                | (go_at_call 80; refine (KOver.out _ ?_).mono ?_; (exact HBW2.out.trans (Below.mono (‹Below wr.heap.size wr _ ∧ _›).1 HBW2.out.size)); rintro e w1 ⟨rfl, hbo⟩))
            all_goals
              have hfin := HBJ.out.trans (Below.mono (‹Below wr.heap.size wr _ ∧ _›).1 HBJ.out.size)
              go_wp2
              go_roundw
              case rel => exact ⟨k + 1, u + ov, by omega, by go_num, by rw [HWrap.out]; go_num, HNew, hfin⟩
              case measure => simp [intOf]; omega
          · obtain rfl : k = cols.length := by omega
            have hz : u = underTo nets ord tr below above (i + 1) := by rw [HZ.out]; exact hrel2.out
            have HY := Lib.hid hz
            clear hz hub hkn
            go_wp2
            go_roundw
            case rel => exact ⟨i + 1, u, by omega, by go_num, rfl, HY, HB.out.trans (hbj.mono HB.out.size)⟩
            case measure => simp [intOf]; omega
      · have h1' : (t != above) = true := by simp [h1]
        have hz : s = underTo nets ord tr below above (i + 1) := by rw [HS.out, if_neg h1]; rfl
        have HZ := Lib.hid hz
        clear hz h1
        go_wp2
        go_roundw
        case rel => exact ⟨i + 1, s, by omega, by go_num, rfl, HZ, HB.out⟩
        case measure => simp [intOf]; omega
    · obtain rfl : i = nets.length := by omega
      have HY := Lib.hid hrel.out
      clear hsb
      go_wp2
      go_ret
      exact ⟨iret (by rw [HY.out]), HL.out _ hb⟩
end Go.Proofs.YtggcnnpklkmeoaaGreatDoor
end

