import Derived.Test.YtggcnnpklkmeoaaGreatDoorWH
import Derived.Test.YtggcnnpklkmeoaaGreatDoorWA
import Derived.Deep.Cut
import Derived.Deep.RegionHeld3
import Derived.Deep.DeepCutAuto
import Derived.StillTailTactics
section
namespace Go.Proofs.YtggcnnpklkmeoaaGreatDoor
open Go.RowKit Go

theorem boolInfo : (Tryz.prog.info? 4).map (fun i => (i.zero, i.size, i.bytes)) = some (some (.bool false), 1, 1) := by kernel_rfl

/-! Rows of bools of the call's own. -/
def OwnB (w : World) (base g n : Nat) (bs : List Bool) : Prop := w.ownsRow base 4 1 (.slice (some ⟨g, 0, none⟩) n n) n (bs.map Value.bool)

theorem OwnB.len {w : World} {base g n : Nat} {bs : List Bool} (h : OwnB w base g n bs) : bs.length = n := by
  have := h.1; simpa using this

theorem OwnB.at {w : World} {base g n : Nat} {bs : List Bool} (h : OwnB w base g n bs) (i : Nat) (hi : i < bs.length) : w.cell? ⟨g, i, none⟩ = some (.bool (bs.getD i false)) := by
  have h2 := World.ownsRow.cells h (g := g) rfl i (.bool (bs.getD i false)) (by simp [hi, List.getD_eq_getElem?_getD])
  have hadd : (⟨g, 0, none⟩ : Addr).add i = ⟨g, 0 + i, none⟩ := by unfold Addr.add; split <;> simp_all
  rw [hadd, Nat.zero_add] at h2
  exact h2

theorem OwnB.free {w : World} {base g n : Nat} {bs : List Bool} (h : OwnB w base g n bs) (i : Nat) : w.frozen? ⟨g, i, none⟩ = false := World.ownsRow.frozenAt h i

theorem OwnB.store {w : World} {base g n : Nat} {bs : List Bool} (h : OwnB w base g n bs) (i : Nat) (x : Bool) : OwnB (w.setCell ⟨g, i, none⟩ (.bool x)) base g n (bs.set i x) := by
  have := (World.ownsRow.stored h i (.bool x)).1
  unfold OwnB
  rw [show (bs.set i x).map Value.bool = (bs.map Value.bool).set i (.bool x) by simp [List.map_set]]
  exact this

theorem OwnB.lt {w : World} {base g n : Nat} {bs : List Bool} (h : OwnB w base g n bs) : base ≤ g ∧ g < w.heap.size := World.ownsRow.lt h g rfl

theorem ownB_made {w : World} {base g n : Nat} (h : w.ownsRow base 4 1 (.slice (some ⟨g, 0, none⟩) n n) n (madeCells #[Value.bool false] n).toList) : OwnB w base g n (List.replicate n false) := by
  rw [toList_madeCells_one] at h
  unfold OwnB
  rw [show (List.replicate n false).map Value.bool = List.replicate n (Value.bool false) by simp]
  exact h

theorem bset_at {bs : List Bool} {i : Nat} (h : i < bs.length) (x : Bool) : (bs.set i x).getD i false = x := by
  rw [List.getD_eq_getElem?_getD, List.getElem?_set_self h]; rfl
theorem bset_ne {bs : List Bool} {i j : Nat} (h : j ≠ i) (x : Bool) : (bs.set i x).getD j false = bs.getD j false := by
  rw [List.getD_eq_getElem?_getD, List.getD_eq_getElem?_getD, List.getElem?_set_ne (by omega)]

/-- Which numbers occurred: the next one. -/
theorem has_next {bs : List Bool} {n : Nat} {p q : Int → Prop} [∀ x, Decidable (p x)] [∀ x, Decidable (q x)] (hl : bs.length = n) (h : ∀ x : Nat, x < n → bs.getD x false = decide (p x)) {d : Nat} (hd : d < n) (hq : ∀ x : Int, q x ↔ p x ∨ x = d) :
    ∀ x : Nat, x < n → (bs.set d true).getD x false = decide (q x) := by
  intro x hx
  by_cases e : x = d
  · subst e
    rw [bset_at (by omega), decide_eq_true ((hq _).2 (.inr rfl))]
  · rw [bset_ne e, h x hx, Bool.eq_iff_iff, decide_eq_true_iff, decide_eq_true_iff, hq]
    constructor
    · exact .inl
    · rintro (h1 | h1)
      · exact h1
      · omega

theorem take_mem {l : List Int} {k : Nat} (h : k < l.length) (x : Int) : x ∈ l.take (k + 1) ↔ x ∈ l.take k ∨ x = l.getD k 0 := by
  rw [int_take h, List.mem_append, List.mem_singleton]

set_option maxHeartbeats 1600000 in
set_option maxRecDepth 100000 in
/-- checkDifferent. -/
theorem uDiff_any (p : Option Addr) (ca : Nat) (l : List Int) (n : Nat) (w : World) (hx : IntV w p l) (hn : n ≤ 1000000) :
    Calls Tryz.prog 53 #[.slice p l.length ca, .int .i64 (n : Int)] w fun e w' => e = .returned (.int .i64 (orderFrom n l 0 l.length)) ∧ Below w.heap.size w w' := by
  obtain ⟨i0, hInfo, hz0, hz1, hz2⟩ := info_parts boolInfo
  have hm := hx.1
  generalize hr : orderFrom (n : Int) l 0 l.length = res
  have hr2 : res = orderFrom n l 0 (l.length - 0) := by rw [← hr]; rfl
  have HR := Lib.hid hr2
  have HX := Lib.hid hx
  clear hr hr2 hx
  go_enter Tryz.func53, Tryz.ntmps53
  go_wp2_with (at_make; refine wpList_make_full _ rfl _ _ 129 rfl w.heap.size 4 i0 (.bool false) 1 Tryz.underlying129 hInfo hz0 hz1 _ _ _ _ n rfl rfl (by first | rfl | simp) (by first | rfl | simp) ?b2 ?b3 (Nat.le_refl _) ?_)
  case b2 => rw [hz2]; omega
  case b3 => unfold maxLen; omega
  intro w0 hown0 hgrow0
  have hown0 := ownB_made hown0
  have hb0 : Below w.heap.size w w0 := (Below.refl _ _).grown hgrow0 (Nat.le_refl _) (fun k h => by cases h)
  clear hgrow0
  go_wp2
  go_loopw [12] (fun ii wr => ∃ (k : Nat) (bs : List Bool), k ≤ l.length ∧ ii = .int .i64 k ∧ OwnB wr w.heap.size w.heap.size n bs ∧ Below w.heap.size w wr ∧ Hid (∀ x : Nat, x < n → bs.getD x false = decide ((x : Int) ∈ l.take k)) ∧ Hid (res = orderFrom n l k (l.length - k))) (fun ii _ => l.length - (intOf ii).toNat)
  case atStart => exact ⟨0, List.replicate n false, Nat.zero_le _, rfl, hown0, hb0, Lib.hid (fun x hx => by rw [List.getD_eq_getElem?_getD, List.getElem?_replicate, if_pos hx]; simp), HR⟩
  case round =>
    clear hown0 hb0
    obtain ⟨k, bs, hk, rfl, hown, hb, hh, hrel⟩ := hrel
    by_cases h0 : k < l.length
    · obtain ⟨g, o, rfl, hg, hc⟩ := (HX.out.below hb).at (i := k) h0
      have hs : res = if l.getD k 0 < 0 ∨ (n : Int) ≤ l.getD k 0 then 10 else if l.getD k 0 ∈ l.take k then 9 else orderFrom n l (k + 1) (l.length - (k + 1)) := by
          rw [hrel.out, show l.length - k = (l.length - (k + 1)) + 1 by omega]; rfl
      have hlen := hown.len
      have hnx : ∀ d : Nat, l.getD k 0 = (d : Int) → d < n → ∀ x : Nat, x < n → (bs.set d true).getD x false = decide ((x : Int) ∈ l.take (k + 1)) := by
        intro d hd hdn
        exact has_next hlen hh.out hdn (fun x => by rw [take_mem h0, hd])
      generalize l.getD k 0 = y at *
      have HS := Lib.hid hs
      have HN := Lib.hid hnx
      have HL := Lib.hid hlen
      clear hs hnx hlen
      by_cases h1 : y < 0
      · have hz : res = 10 := by rw [HS.out, if_pos (.inl h1)]
        have HZ := Lib.hid hz
        clear hz
        go_wp2
        go_ret
        exact ⟨iret HZ.out.symm, hb⟩
      by_cases h2 : (n : Int) ≤ y
      · have hz : res = 10 := by rw [HS.out, if_pos (.inr h2)]
        have HZ := Lib.hid hz
        clear hz
        go_wp2
        go_ret
        exact ⟨iret HZ.out.symm, hb⟩
      obtain ⟨d, rfl⟩ : ∃ d : Nat, y = (d : Int) := ⟨y.toNat, by omega⟩
      have hdn : d < n := by omega
      have hcb := hown.at d (by rw [HL.out]; exact hdn)
      have hfb := hown.free d
      have hd := hh.out d hdn
      rw [hd] at hcb
      have HB := Lib.hid hb
      have HO := Lib.hid hown
      have hsz := hb.size
      clear hb hown hd hh hrel
      by_cases h3 : (d : Int) ∈ l.take k
      · have hz : res = 9 := by rw [HS.out, if_neg (by omega), if_pos h3]
        have HZ := Lib.hid hz
        rw [decide_eq_true h3] at hcb
        clear hz h3
        go_wp2
        go_ret
        exact ⟨iret HZ.out.symm, HB.out⟩
      · have hz : res = orderFrom n l (k + 1) (l.length - (k + 1)) := by rw [HS.out, if_neg (by omega), if_neg h3]
        have HZ := Lib.hid hz
        rw [decide_eq_false h3] at hcb
        clear hz h3
        go_wp2
        go_roundw
        case rel => exact ⟨k + 1, bs.set d true, by omega, by go_num, HO.out.store d true, HB.out.setCell (Nat.le_refl _) _, Lib.hid (HN.out d rfl hdn), HZ⟩
        case measure => simp [intOf]; omega
    · obtain rfl : k = l.length := by omega
      have hz : res = 0 := by rw [hrel.out, Nat.sub_self]; rfl
      have HZ := Lib.hid hz
      clear hz
      go_wp2
      go_ret
      exact ⟨iret HZ.out.symm, hb⟩

/-- The error of the columns of a net. -/
def colsErr (cols : Int) (l : List Int) : Int := if l = [] then 12 else colsFrom cols l 0 l.length
def beforeAt (l : List Int) (k : Nat) : Int := if k = 0 then -1 else l.getD (k - 1) 0

set_option maxHeartbeats 1600000 in
/-- checkColumns. -/
theorem uCols_any (p : Option Addr) (ca : Nat) (l : List Int) (cols : Int) (w : World) (hx : IntV w p l) :
    Calls Tryz.prog 93 #[.slice p l.length ca, .int .i64 cols] w fun e w' => e = .returned (.int .i64 (colsErr cols l)) ∧ w = w' := by
  have hm := hx.1
  by_cases he : l = []
  · subst he
    have hr : colsErr cols [] = 12 := rfl
    rw [hr]
    clear hr hx
    go_enter Tryz.func93, Tryz.ntmps93
    go_wp2
    go_ret
    exact ⟨rfl, rfl⟩
  have hpos : 0 < l.length := List.length_pos_iff.2 he
  have hne : ((l.length : Int) == 0) = false := by rw [beq_eq_false_iff_ne]; omega
  generalize hr : colsErr cols l = res
  have hr2 : res = colsFrom cols l 0 (l.length - 0) := by rw [← hr]; unfold colsErr; rw [if_neg he]; rfl
  have HR := Lib.hid hr2
  clear hr hr2 he
  go_enter Tryz.func93, Tryz.ntmps93
  go_wp2
  go_loop [5, 13] (fun bi ii => ∃ (k : Nat), k ≤ l.length ∧ ii = .int .i64 k ∧ bi = .int .i64 (beforeAt l k) ∧ Hid (res = colsFrom cols l k (l.length - k))) (fun _ ii => l.length - (intOf ii).toNat)
  case atStart => exact ⟨0, Nat.zero_le _, rfl, rfl, HR⟩
  case round =>
    obtain ⟨k, hk, rfl, rfl, hrel⟩ := hrel
    by_cases h0 : k < l.length
    · obtain ⟨g, o, rfl, hg, hc⟩ := hx.at (i := k) h0
      have hs : res = if l.getD k 0 < 0 ∨ cols ≤ l.getD k 0 then 10 else if 0 < k ∧ l.getD k 0 ≤ l.getD (k - 1) 0 then 11 else colsFrom cols l (k + 1) (l.length - (k + 1)) := by
        rw [hrel.out, show l.length - k = (l.length - (k + 1)) + 1 by omega]; rfl
      have hnext : beforeAt l (k + 1) = l.getD k 0 := by unfold beforeAt; rw [if_neg (by omega), Nat.add_sub_cancel]
      have hbf : ¬ l.getD k 0 < 0 → ((0 < k ∧ l.getD k 0 ≤ l.getD (k - 1) 0) ↔ l.getD k 0 ≤ beforeAt l k) := by
        intro h
        unfold beforeAt
        by_cases hk0 : k = 0
        · rw [if_pos hk0]; omega
        · rw [if_neg hk0]; omega
      generalize beforeAt l k = b at *
      generalize l.getD (k - 1) 0 = z at *
      generalize l.getD k 0 = b2 at *
      have HX2 := Lib.hid hnext
      clear hnext
      have HS := Lib.hid hs
      have HF := Lib.hid hbf
      clear hs hbf hx hrel
      by_cases h1 : b2 < 0
      · have hz : res = 10 := by rw [HS.out, if_pos (.inl h1)]
        have HZ := Lib.hid hz
        clear hz
        go_wp2
        go_ret
        exact ⟨iret HZ.out.symm, rfl⟩
      by_cases h2 : cols ≤ b2
      · have hz : res = 10 := by rw [HS.out, if_pos (.inr h2)]
        have HZ := Lib.hid hz
        clear hz
        go_wp2
        go_ret
        exact ⟨iret HZ.out.symm, rfl⟩
      by_cases h3 : b2 ≤ b
      · have hz : res = 11 := by rw [HS.out, if_neg (by omega), if_pos ((HF.out h1).2 h3)]
        have HZ := Lib.hid hz
        clear hz
        go_wp2
        go_ret
        exact ⟨iret HZ.out.symm, rfl⟩
      · have hz : res = colsFrom cols l (k + 1) (l.length - (k + 1)) := by rw [HS.out, if_neg (by omega), if_neg (fun h => h3 ((HF.out h1).1 h))]
        have HZ := Lib.hid hz
        clear hz
        go_wp2
        go_round
        case rel => exact ⟨k + 1, by omega, by go_num, by rw [HX2.out], HZ⟩
        case measure => simp [intOf]; omega
    · obtain rfl : k = l.length := by omega
      have hz : res = 0 := by rw [hrel.out, Nat.sub_self]; rfl
      have HZ := Lib.hid hz
      clear hz hx
      go_wp2
      go_ret
      exact ⟨iret HZ.out.symm, rfl⟩
end Go.Proofs.YtggcnnpklkmeoaaGreatDoor
end

section
namespace Go.Proofs.YtggcnnpklkmeoaaGreatDoor
open Go.RowKit Go

/-- A box of bools. -/
def BoolsAt (w : World) (g : Nat) (bs : List Bool) : Prop := BoxAt w g 167 (bs.map Value.bool)

set_option maxHeartbeats 1600000 in
set_option maxRecDepth 100000 in
/-- CheckNets. -/
theorem uCheckNets_any (p : Option Addr) (ca : Nat) (xs : List (Int × List Int)) (cols : Int) (w : World) (hx : NetsV w p xs) :
    Calls Tryz.prog 73 #[.slice p xs.length ca, .int .i64 cols] w fun e w' => e = .returned (.int .i64 (netsOf cols xs)) ∧ Below w.heap.size w w' := by
  have hm := hx.1
  by_cases c1 : cols < 1
  · have hr : netsOf cols xs = 3 := by unfold netsOf; rw [if_pos (.inl c1)]
    rw [hr]
    clear hr hx
    go_enter Tryz.func73, Tryz.ntmps73
    go_wp2
    go_ret
    exact ⟨rfl, Below.refl _ _⟩
  by_cases c2 : 97 < cols
  · have hr : netsOf cols xs = 3 := by unfold netsOf; rw [if_pos (.inr c2)]
    rw [hr]
    clear hr hx
    go_enter Tryz.func73, Tryz.ntmps73
    go_wp2
    go_ret
    exact ⟨rfl, Below.refl _ _⟩
  by_cases c3 : 64 < xs.length
  · have hr : netsOf cols xs = 5 := by unfold netsOf; rw [if_neg (by omega), if_pos c3]
    rw [hr]
    clear hr hx
    go_enter Tryz.func73, Tryz.ntmps73
    go_wp2
    go_ret
    exact ⟨rfl, Below.refl _ _⟩
  generalize hr : netsOf cols xs = res
  have hr2 : res = netsFrom cols xs 0 (xs.length - 0) := by rw [← hr]; unfold netsOf; rw [if_neg (by omega), if_neg c3]; rfl
  have HR := Lib.hid hr2
  have HX := Lib.hid hx
  clear hr hr2 hx
  go_enter Tryz.func73, Tryz.ntmps73
  go_upto_region 6 with (fail)
  have HZc : Tryz.zeroCells167 = ((List.replicate 100 false).map Value.bool).toArray := by kernel_rfl
  have B0 : BoolsAt (w.alloc (.cells Tryz.zeroCells167 167)) w.heap.size (List.replicate 100 false) := by
    unfold BoolsAt; rw [HZc]; exact BoxAt.made _ _ _
  have G0 : Below w.heap.size w (w.alloc (.cells Tryz.zeroCells167 167)) := (Below.refl _ _).alloc (Nat.le_refl _) _
  clear HZc
  generalize w.alloc (.cells Tryz.zeroCells167 167) = w0 at *
  go_wp2
  go_loopw [20] (fun ii wr => ∃ (k : Nat) (bs : List Bool), k ≤ xs.length ∧ ii = .int .i64 k ∧ BoolsAt wr w.heap.size bs ∧ bs.length = 100 ∧ Below w.heap.size w wr ∧ Hid (∀ x : Nat, x < 100 → bs.getD x false = decide ((x : Int) ∈ (xs.take k).map (·.1))) ∧ Hid (res = netsFrom cols xs k (xs.length - k))) (fun ii _ => xs.length - (intOf ii).toNat)
  case atStart => exact ⟨0, List.replicate 100 false, Nat.zero_le _, rfl, B0, by simp, G0, Lib.hid (fun x hx => by rw [List.getD_eq_getElem?_getD, List.getElem?_replicate, if_pos hx]; simp), HR⟩
  case round =>
    clear B0 G0
    obtain ⟨k, bs, hk, rfl, hbs, hbl, hb, hh, hrel⟩ := hrel
    by_cases h0 : k < xs.length
    · obtain ⟨g, o, rfl, hg, hc1, q, c, hc2, hq⟩ := HX.out.at (i := k) h0
      have hc1 := (hb.cell (p := ⟨g, o + k * 2, none⟩) hg).trans hc1
      have hc2 := (hb.cell (p := ⟨g, o + k * 2 + 1, none⟩) hg).trans hc2
      have hs : res = if netErr cols (xs.take k) (xs.getD k (0, [])) = 0 then netsFrom cols xs (k + 1) (xs.length - (k + 1)) else netErr cols (xs.take k) (xs.getD k (0, [])) := by
        rw [hrel.out, show xs.length - k = (xs.length - (k + 1)) + 1 by omega]; rfl
      have hnx : ∀ d : Nat, (xs.getD k (0, [])).1 = (d : Int) → d < 100 → ∀ x : Nat, x < 100 → (bs.set d true).getD x false = decide ((x : Int) ∈ (xs.take (k + 1)).map (·.1)) := by
        intro d hd hdn
        refine has_next hbl hh.out hdn (fun x => ?_)
        rw [nets_take h0, List.map_append, List.mem_append, ← hd]
        simp
      generalize xs.getD k (0, []) = n at *
      obtain ⟨sh, l⟩ := n
      simp only at hc1 hc2 hq hnx
      have he : netErr cols (xs.take k) (sh, l) = if sh < 0 ∨ 100 ≤ sh then 3 else if sh ∈ (xs.take k).map (·.1) then 9 else colsErr cols l := rfl
      generalize netErr cols (xs.take k) (sh, l) = er at *
      have HS := Lib.hid hs
      have HN := Lib.hid hnx
      have HE := Lib.hid he
      have HH := Lib.hid hh.out
      have HB := Lib.hid hb
      have HQ := Lib.hid hq
      have HBS := Lib.hid hbs
      have hsz := hbs.lt
      clear hs hnx he hh hb hq hbs hrel
      go_upto_region 9 with (fail)
      have B1 : BoxAt (wr.alloc (.cells #[.int .i64 sh, .slice q l.length c] 39)) wr.heap.size 39 [.int .i64 sh, .slice q l.length c] := BoxAt.made _ _ _
      have G1 : Below wr.heap.size wr (wr.alloc (.cells #[.int .i64 sh, .slice q l.length c] 39)) := (Below.refl _ _).alloc (Nat.le_refl _) _
      generalize wr.alloc (.cells #[.int .i64 sh, .slice q l.length c] 39) = w1 at *
      have d0 := B1.cell 0
      have d1 := B1.cell 1
      simp only [List.getElem?_cons_zero, List.getElem?_cons_succ] at d0 d1
      have HBS1 : Hid (BoolsAt w1 w.heap.size bs) := Lib.hid (BoxAt.below HBS.out G1 hsz)
      have HW1 : Hid (Below w.heap.size w w1) := Lib.hid (HB.out.trans (G1.mono HB.out.size))
      have HB1 := Lib.hid B1
      have hne : w.heap.size ≠ wr.heap.size := by omega
      have hsz1 : w.heap.size < w1.heap.size := Nat.lt_of_lt_of_le hsz G1.size
      generalize wr.heap.size = b1 at *
      clear B1 G1 HB HBS hc1 hc2 hg
      by_cases h1 : sh < 0
      · have hz : res = 3 := by rw [HS.out, show er = 3 by rw [HE.out, if_pos (.inl h1)], if_neg (by decide)]
        have HZ := Lib.hid hz
        clear hz
        go_wp2
        go_ret
        exact ⟨iret HZ.out.symm, HW1.out⟩
      by_cases h2 : 100 ≤ sh
      · have hz : res = 3 := by rw [HS.out, show er = 3 by rw [HE.out, if_pos (.inr h2)], if_neg (by decide)]
        have HZ := Lib.hid hz
        clear hz
        go_wp2
        go_ret
        exact ⟨iret HZ.out.symm, HW1.out⟩
      obtain ⟨d, rfl⟩ : ∃ d : Nat, sh = (d : Int) := ⟨sh.toNat, by omega⟩
      have hd100 : d < 100 := by omega
      have hcb : w1.cell? ⟨w.heap.size, d, none⟩ = some (.bool (bs.getD d false)) := by
        rw [HBS1.out.cell, List.getElem?_map, List.getElem?_eq_getElem (by omega), List.getD_eq_getElem?_getD, List.getElem?_eq_getElem (by omega)]; rfl
      have hfb : w1.frozen? ⟨w.heap.size, d, none⟩ = false := HBS1.out.free d
      rw [HH.out d hd100] at hcb
      by_cases h3 : (d : Int) ∈ (xs.take k).map (·.1)
      · have hz : res = 9 := by rw [HS.out, show er = 9 by rw [HE.out, if_neg (by omega), if_pos h3], if_neg (by decide)]
        have HZ := Lib.hid hz
        rw [decide_eq_true h3] at hcb
        clear hz h3
        go_wp2
        go_ret
        exact ⟨iret HZ.out.symm, HW1.out⟩
      · rw [decide_eq_false h3] at hcb
        have hz : res = if colsErr cols l = 0 then netsFrom cols xs (k + 1) (xs.length - (k + 1)) else colsErr cols l := by rw [HS.out, show er = colsErr cols l by rw [HE.out, if_neg (by omega), if_neg h3]]
        have HZ := Lib.hid hz
        clear hz h3
        go_upto_region 14 with (fail)
        have HBS2 : Hid (BoolsAt (w1.setCell ⟨w.heap.size, d, none⟩ (.bool true)) w.heap.size (bs.set d true)) := by
          refine Lib.hid ?_
          unfold BoolsAt
          rw [List.map_set]
          exact BoxAt.store HBS1.out d _
        have B2 : BoxAt (w1.setCell ⟨w.heap.size, d, none⟩ (.bool true)) b1 39 [.int .i64 (d : Int), .slice q l.length c] := HB1.out.other (by omega) d _
        have HW2 : Hid (Below w.heap.size w (w1.setCell ⟨w.heap.size, d, none⟩ (.bool true))) := Lib.hid (HW1.out.setCell (Nat.le_refl _) _)
        have K := Lib.hid (uCols_any q c l cols (w1.setCell ⟨w.heap.size, d, none⟩ (.bool true)) (HQ.out.below HW2.out))
        have d2 := B2.cell 1
        simp only [List.getElem?_cons_zero, List.getElem?_cons_succ] at d2
        generalize w1.setCell ⟨w.heap.size, d, none⟩ (.bool true) = w2 at *
        have HN2 := Lib.hid (HN.out d rfl hd100)
        generalize hce : colsErr cols l = ce at *
        clear hce B2 d0 d1 hcb hfb HBS1 HB1 HW1
        by_cases h4 : ce = 0
        · have hz : res = netsFrom cols xs (k + 1) (xs.length - (k + 1)) := by rw [HZ.out, if_pos h4]
          have HZ2 := Lib.hid hz
          clear hz
          subst h4
          go_wp2_with (go_at_call 93; refine K.out.mono ?_; rintro e w3 ⟨rfl, rfl⟩)
          go_roundw
          case rel => exact ⟨k + 1, bs.set d true, by omega, by go_num, HBS2.out, by rw [List.length_set]; exact hbl, HW2.out, HN2, HZ2⟩
          case measure => simp [intOf]; omega
        · have hz : res = ce := by rw [HZ.out, if_neg h4]
          have HZ2 := Lib.hid hz
          have hne4 : (ce != 0) = true := by simpa using h4
          clear hz h4
          go_wp2_with (go_at_call 93; refine K.out.mono ?_; rintro e w3 ⟨rfl, rfl⟩)
          go_ret
          exact ⟨iret HZ2.out.symm, HW2.out⟩
    · obtain rfl : k = xs.length := by omega
      have hz : res = 0 := by rw [hrel.out, Nat.sub_self]; rfl
      have HZ := Lib.hid hz
      clear hz
      go_wp2
      go_ret
      exact ⟨iret HZ.out.symm, hb⟩
end Go.Proofs.YtggcnnpklkmeoaaGreatDoor
end

