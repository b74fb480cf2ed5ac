import Derived.Test.YtggcnnpklkmeoaaGreatDoorUF
import Derived.Test.YtggcnnpklkmeoaaGreatDoorWH
section
namespace Go.Proofs.YtggcnnpklkmeoaaGreatDoor
open Go.RowKit Go.Shelf Go

attribute [local go_sem] Oper.semAt_some

/-- The crossings of a layout that is in order. -/
noncomputable def crossC (nets : List (Int × List Int)) (ord tr : List Int) : Int := crossF (takenF (extsOf nets ord) ord.length tr nets.length) tr (tapsTo nets ord nets.length)

theorem layout_ok {nets : List (Int × List Int)} {cols : Int} {ord tr : List Int} (h : layoutOf nets cols ord tr = 0) : rowErr cols nets ord = 0 ∧ tr.length = nets.length ∧ ∀ x ∈ tr, 0 ≤ x ∧ x < 64 := by
  rw [layout_row] at h
  by_cases c : rowErr cols nets ord = 0
  · rw [if_pos c] at h
    unfold tracksErr at h
    by_cases c2 : tr.length = nets.length
    · rw [if_pos c2] at h
      by_cases c3 : tr.all trackOk = true
      · exact ⟨c, c2, fun x hx => trackOk_iff.1 (List.all_eq_true.1 c3 x hx)⟩
      · rw [if_neg c3] at h; omega
    · rw [if_neg c2] at h; omega
  · rw [if_neg c] at h; exact absurd h c

set_option maxHeartbeats 1600000 in
set_option maxRecDepth 100000 in
/-- Crossings. -/
theorem uCrossings_any (p q r : Option Addr) (ca cb cc : Nat) (nets : List (Int × List Int)) (ord tr : List Int) (cols : Int) (w : World) (hx : NetsV w p nets) (ho : IntV w q ord) (ht : IntV w r tr) :
    Calls Tryz.prog 28 #[.slice p nets.length ca, .int .i64 cols, .agg #[.slice q ord.length cb, .slice r tr.length cc]] w fun e w' => ∃ n, e = .returned (.tuple #[.int .i64 n, .int .i64 (layoutOf nets cols ord tr)]) ∧
      (layoutOf nets cols ord tr ≠ 0 → n = 0) ∧ (layoutOf nets cols ord tr = 0 → n = crossC nets ord tr) ∧ Below w.heap.size w w' := by
  have KR := Lib.hid (fun W (h : Below w.heap.size w W) => uReadLayout_any p q r ca cb cc nets ord tr cols W (hx.below h) (ho.below h) (ht.below h))
  have KC := Lib.hid (fun (hz : layoutOf nets cols ord tr = 0) W g (h : RowAt W g p q ca cb nets ord) (hb : Below w.heap.size w W) =>
    uRcrossings_any g p q r ca cb cc nets ord tr W h (hx.below hb) (ht.below hb) (layout_ok hz).2.1 (rowOk_of (layout_ok hz).1).ok (layout_ok hz).2.2 (rowOk_of (layout_ok hz).1).most (rowOk_of (layout_ok hz).1).len)
  have hm := ht.1
  clear hx ho ht
  unfold crossC
  generalize layoutOf nets cols ord tr = res at *
  generalize crossF (takenF (extsOf nets ord) ord.length tr nets.length) tr (tapsTo nets ord nets.length) = cr at *
  have G0 : Below w.heap.size w (w.alloc (.cells #[.slice q ord.length cb, .slice r tr.length cc] 49)) := (Below.refl _ _).alloc (Nat.le_refl _) _
  by_cases c : res = 0
  · have KC2 := Lib.hid (KC.out c)
    subst c
    clear KC
    go_enter Tryz.func28, Tryz.ntmps28
    go_upto_region 1 with (fail)
    have B0 : BoxAt (w.alloc (.cells #[.slice q ord.length cb, .slice r tr.length cc] 49)) w.heap.size 49 [.slice q ord.length cb, .slice r tr.length cc] := BoxAt.made _ _ _
    generalize w.alloc (.cells #[.slice q ord.length cb, .slice r tr.length cc] 49) = w0 at *
    have HBx := Lib.hid B0
    have HG0 := Lib.hid G0
    have d0 := B0.cell 0
    have d1 := B0.cell 1
    simp only [List.getElem?_cons_zero, List.getElem?_cons_succ] at d0 d1
    clear B0 G0
    go_wp2_with (first
      | (go_at_call 52; (with_reducible refine (KR.out _ HG0.out).mono ?_); rintro e w1 ⟨pv, rfl, hpv, hb⟩; obtain ⟨g, rfl, hrow⟩ := hpv rfl; have d2 := (HBx.out.below hb HBx.out.lt).cell 1; simp only [List.getElem?_cons_zero, List.getElem?_cons_succ] at d2)
      | (go_at_call 55; (with_reducible refine (KC2.out _ _ hrow (HG0.out.trans (hb.mono HG0.out.size))).mono ?_); rintro e w2 ⟨rfl, hb2⟩))
    go_ret2
    exact ⟨_, rfl, fun h => absurd rfl h, fun _ => rfl, (HG0.out.trans (hb.mono HG0.out.size)).trans (hb2.mono (HG0.out.trans (hb.mono HG0.out.size)).size)⟩
  · have hne : (res != 0) = true := by simpa using c
    have HC := Lib.hid c
    clear c KC
    go_enter Tryz.func28, Tryz.ntmps28
    go_upto_region 1 with (fail)
    go_wp2_with (go_at_call 52; (with_reducible refine (KR.out _ G0).mono ?_); rintro e w1 ⟨pv, rfl, hpv, hb⟩; clear hpv)
    go_ret2
    exact ⟨_, rfl, fun _ => rfl, fun h => absurd h HC.out, G0.trans (hb.mono G0.size)⟩
end Go.Proofs.YtggcnnpklkmeoaaGreatDoor
end

section
namespace Go.Proofs.YtggcnnpklkmeoaaGreatDoor
open Go.RowKit Go.Shelf Go

/-! The crossings stay as they were when the columns get other names. -/

theorem isum_erase {α : Type} [BEq α] [LawfulBEq α] (g : α → Int) {x : α} : ∀ {b : List α}, x ∈ b → (b.map g).sum = g x + ((b.erase x).map g).sum
  | y :: r, h => by
    by_cases e : y = x
    · subst e; simp
    · have hx : x ∈ r := by
        rw [List.mem_cons] at h
        rcases h with h | h
        · exact absurd h.symm e
        · exact h
      rw [List.erase_cons_tail (by simpa using e), List.map_cons, List.sum_cons, List.map_cons, List.sum_cons, isum_erase g hx]
      omega

theorem isum_same {α : Type} [BEq α] [LawfulBEq α] (g : α → Int) : ∀ {a b : List α}, a.Nodup → b.Nodup → (∀ x, x ∈ a ↔ x ∈ b) → (a.map g).sum = (b.map g).sum
  | [], b, _, _, h => by
    have : b = [] := List.eq_nil_iff_forall_not_mem.2 fun x hx => by have := (h x).2 hx; simp at this
    rw [this]
  | x :: r, b, hn, hb, hs => by
    rw [List.nodup_cons] at hn
    have hx : x ∈ b := (hs x).1 (by simp)
    have ih := isum_same g (a := r) (b := b.erase x) hn.2 (hb.erase x) (fun y => by
      by_cases e : y = x
      · subst e
        constructor
        · intro h; exact absurd h hn.1
        · intro h; exact absurd h (by intro h; exact (List.Nodup.not_mem_erase hb) h)
      · rw [List.mem_erase_of_ne e, ← hs y, List.mem_cons]
        simp [e])
    rw [isum_erase g hx, List.map_cons, List.sum_cons, ih]

theorem foldl_wrap {α : Type} (f : α → Int) : ∀ (l : List α) (s : Int), wrap64 (l.foldl (fun s x => wrap64 (s + f x)) s) = wrap64 (s + (l.map f).sum)
  | [], s => by simp
  | x :: r, s => by
    rw [List.foldl_cons, foldl_wrap f r, List.map_cons, List.sum_cons]
    unfold wrap64
    omega

theorem foldl_fix {α : Type} (f : α → Int) : ∀ (l : List α) (s : Int), wrap64 s = s → wrap64 (l.foldl (fun s x => wrap64 (s + f x)) s) = l.foldl (fun s x => wrap64 (s + f x)) s
  | [], s, h => h
  | x :: r, s, _ => by
    rw [List.foldl_cons]
    exact foldl_fix f r _ (by unfold wrap64; omega)

theorem crossF_sum (tk tr : List Int) (l : List (Int × Int)) : crossF tk tr l = wrap64 ((l.map (tapVal tk tr)).sum) := by
  have h1 := foldl_wrap (tapVal tk tr) l 0
  have h2 := foldl_fix (tapVal tk tr) l 0 (by unfold wrap64; omega)
  unfold crossF
  rw [← h2, h1, Int.zero_add]

theorem taps_sum (nets others : List (Int × List Int)) (ord another : List Int) (h : Ren nets others ord another) (g : Int × Int → Int) : ∀ i, i ≤ nets.length → ((tapsTo others another i).map g).sum = ((tapsTo nets ord i).map g).sum
  | 0, _ => rfl
  | i + 1, hi => by
    unfold tapsTo colTaps
    rw [List.map_append, List.map_append, List.sum_append, List.sum_append, taps_sum nets others ord another h g i (by omega), List.take_length, List.take_length]
    congr 1
    have e := isum_same (fun p : Int => g ((i : Int), p)) (h.nod2 i (by omega)) (h.nod i (by omega)) (h.mem i (by omega))
    rw [List.map_map, List.map_map] at e
    rw [List.map_map, List.map_map]
    exact e

theorem Ren.exts {nets others : List (Int × List Int)} {ord another : List Int} (h : Ren nets others ord another) : extsOf others another = extsOf nets ord := by
  apply List.ext_getElem (by rw [extsOf_len, extsOf_len, h.len])
  intro i h1 h2
  rw [extsOf_len] at h1 h2
  have e1 := extsOf_get others another h1
  have e2 := extsOf_get nets ord h2
  rw [h.ext, ← e2, List.getD_eq_getElem?_getD, List.getD_eq_getElem?_getD, List.getElem?_eq_getElem (by rw [extsOf_len]; exact h1), List.getElem?_eq_getElem (by rw [extsOf_len]; exact h2)] at e1
  exact e1

theorem Ren.crossC {nets others : List (Int × List Int)} {ord another : List Int} (h : Ren nets others ord another) (tr : List Int) : crossC others another tr = Go.Proofs.YtggcnnpklkmeoaaGreatDoor.crossC nets ord tr := by
  unfold Go.Proofs.YtggcnnpklkmeoaaGreatDoor.crossC
  rw [h.exts, h.olen, h.len, crossF_sum, crossF_sum, taps_sum nets others ord another h _ _ (Nat.le_refl _)]
end Go.Proofs.YtggcnnpklkmeoaaGreatDoor
end

