import Derived.Test.YtclhglickeoocaaGreatDoorSA
import Derived.StillTailTactics
import Derived.Deep.QuietTactic
import Derived.Deep.RegionWith
import Derived.Deep.RegionHeld3
import Derived.Lib.Hide
import Derived.Test.YtclhglickeoocaaGreatDoorTE
import Derived.Shelf.Abstract
section
/- slices.insertionSortCmpFunc over fractions, with a comparison that leaves all but named blocks. -/
namespace Go.Proofs.YtclhglickeoocaaGreatDoor
open Go.RowKit Go.Maps Go

/-- All but the blocks that have a name, and one more, lies as it lay. -/
structure Kp (Nm : Nat → Prop) (w w' : World) : Prop where
  os : w'.os = w.os
  tape : w'.tape = w.tape
  output : w'.output = w.output
  size : w.heap.size ≤ w'.heap.size
  block : ∀ k, k < w.heap.size → ¬ Nm k → w'.heap[k]? = w.heap[k]?

theorem Kp.refl (Nm : Nat → Prop) (w : World) : Kp Nm w w := ⟨rfl, rfl, rfl, Nat.le_refl _, fun _ _ _ => rfl⟩
theorem Kp.trans {Nm : Nat → Prop} {a b c : World} (h : Kp Nm a b) (k : Kp Nm b c) : Kp Nm a c :=
  ⟨k.os.trans h.os, k.tape.trans h.tape, k.output.trans h.output, Nat.le_trans h.size k.size, fun i hi hn => (k.block i (Nat.lt_of_lt_of_le hi h.size) hn).trans (h.block i hi hn)⟩
theorem Kp.drew {Nm : Nat → Prop} {a b : World} (h : Kp Nm a b) : Kp Nm a b.drew := ⟨h.os, h.tape, h.output, h.size, h.block⟩
theorem Kp.wide {Nm Nm' : Nat → Prop} {a b : World} (h : Kp Nm a b) (hs : ∀ k, Nm k → Nm' k) : Kp Nm' a b := ⟨h.os, h.tape, h.output, h.size, fun k hk hn => h.block k hk (fun h => hn (hs k h))⟩

/-- What a comparison of elements does. -/
structure CmpG (f : Nat → Fr) (cf : Nat → Nat → Int) (N : Nat) (Nm : Nat → Prop) (G : World → Prop) : Prop where
  keep : ∀ W W', G W → (∀ g, Nm g → W'.heap[g]? = W.heap[g]?) → G W'
  cmp : ∀ i j, i < N → j < N → ∀ W, G W → Calls Tryz.prog 44 #[.agg #[.bool (f i).s, .slice (f i).p (f i).m (f i).k, .slice (f i).q (f i).d (f i).e], .agg #[.bool (f j).s, .slice (f j).p (f j).m (f j).k, .slice (f j).q (f j).d (f j).e]] W
    fun e W' => e = .returned (.int .i64 (cf i j)) ∧ G W' ∧ Kp Nm W W'

/-- A row of elements. -/
def RowIs (f : Nat → Fr) (W : World) (B : Nat) (xs : List Nat) (rest : List Value) : Prop := W.heap[B]? = some (.cells ⟨xs.flatMap (cells3 f) ++ rest⟩ 69 (0, 0))

theorem cells3_at (f : Nat → Fr) : ∀ (xs : List Nat) (rest : List Value) (k c : Nat), k < xs.length → c < 3 → (xs.flatMap (cells3 f) ++ rest)[k * 3 + c]? = (cells3 f (xs.getD k 0))[c]?
  | [], _, k, c, h, _ => by simp at h
  | x :: xs, rest, 0, c, _, hc => by
    simp only [List.flatMap_cons, List.append_assoc, Nat.zero_mul, Nat.zero_add]
    rw [List.getElem?_append_left (by simpa [cells3] using hc)]
    rfl
  | x :: xs, rest, k + 1, c, h, hc => by
    simp only [List.flatMap_cons, List.append_assoc]
    rw [List.getElem?_append_right (by simp [cells3]; omega)]
    have : (k + 1) * 3 + c - (cells3 f x).length = k * 3 + c := by simp [cells3]; omega
    rw [this, cells3_at f xs rest k c (by simpa using h) hc]
    rfl

theorem RowIs.at_ {f : Nat → Fr} {W : World} {B : Nat} {xs : List Nat} {rest : List Value} (h : RowIs f W B xs rest) {k : Nat} (hk : k < xs.length) :
    W.cell? ⟨B, k * 3, none⟩ = some (.bool (f (xs.getD k 0)).s) ∧ W.cell? ⟨B, k * 3 + 1, none⟩ = some (.slice (f (xs.getD k 0)).p (f (xs.getD k 0)).m (f (xs.getD k 0)).k) ∧ W.cell? ⟨B, k * 3 + 2, none⟩ = some (.slice (f (xs.getD k 0)).q (f (xs.getD k 0)).d (f (xs.getD k 0)).e) := by
  have e := cells3_at f xs rest k
  have h0 := e 0 hk (by omega)
  have h1 := e 1 hk (by omega)
  have h2 := e 2 hk (by omega)
  rw [Nat.add_zero] at h0
  refine ⟨?_, ?_, ?_⟩ <;> simp only [World.cell?, show W.heap[B]? = _ from h]
  · simpa [cells3] using h0
  · simpa [cells3] using h1
  · simpa [cells3] using h2

theorem RowIs.frozen {f : Nat → Fr} {W : World} {B : Nat} {xs : List Nat} {rest : List Value} (h : RowIs f W B xs rest) (o : Nat) : W.frozen? ⟨B, o, none⟩ = false := by
  simp [World.frozen?, show W.heap[B]? = _ from h]

theorem heap_setCell_row {W : World} {B o : Nat} {v : Value} {cs : List Value} {t : TypeId} (h : W.heap[B]? = some (.cells ⟨cs⟩ t (0, 0))) : (W.setCell ⟨B, o, none⟩ v).heap[B]? = some (.cells ⟨cs.set o v⟩ t (0, 0)) := by
  obtain ⟨hlt, hk⟩ := Array.getElem?_eq_some_iff.1 h
  show (W.heap.modify B _)[B]? = _
  rw [Array.getElem?_eq_getElem (by rw [Array.size_modify]; exact hlt), Array.getElem_modify_self, hk]
  simp

theorem sw_cells (f : Nat → Fr) {xs : List Nat} {rest : List Value} {j : Nat} (h : j + 1 < xs.length) :
    ((((((xs.flatMap (cells3 f) ++ rest).set ((j + 1) * 3) (.bool (f (xs.getD j 0)).s)).set ((j + 1) * 3 + 1) (.slice (f (xs.getD j 0)).p (f (xs.getD j 0)).m (f (xs.getD j 0)).k)).set ((j + 1) * 3 + 2) (.slice (f (xs.getD j 0)).q (f (xs.getD j 0)).d (f (xs.getD j 0)).e)).set
      (j * 3) (.bool (f (xs.getD (j + 1) 0)).s)).set (j * 3 + 1) (.slice (f (xs.getD (j + 1) 0)).p (f (xs.getD (j + 1) 0)).m (f (xs.getD (j + 1) 0)).k)).set (j * 3 + 2) (.slice (f (xs.getD (j + 1) 0)).q (f (xs.getD (j + 1) 0)).d (f (xs.getD (j + 1) 0)).e) =
    (Isort.sw xs j).flatMap (cells3 f) ++ rest := by
  have hlen : ∀ ys : List Nat, (ys.flatMap (cells3 f)).length = ys.length * 3 := by
    intro ys
    induction ys with
    | nil => rfl
    | cons y ys ih => simp [List.flatMap_cons, ih, cells3]; omega
  apply List.ext_getElem?
  intro q
  have hq : q = q / 3 * 3 + q % 3 := by omega
  have hc : q % 3 < 3 := Nat.mod_lt _ (by omega)
  by_cases hlt : q / 3 < xs.length
  · have e1 := cells3_at f xs rest (q / 3) (q % 3) hlt hc
    have e2 := cells3_at f (Isort.sw xs j) rest (q / 3) (q % 3) (by rw [Isort.sw_length]; exact hlt) hc
    rw [← hq] at e1 e2
    rw [e2, Isort.sw_getD h]
    have hin : q < (xs.flatMap (cells3 f) ++ rest).length := by rw [List.length_append, hlen]; omega
    simp only [List.getElem?_set, List.length_set]
    by_cases k1 : q / 3 = j
    · rw [if_pos k1]
      rcases (show q % 3 = 0 ∨ q % 3 = 1 ∨ q % 3 = 2 by omega) with m | m | m
      · have : q = j * 3 := by omega
        subst this
        rw [if_neg (by omega), if_neg (by omega), if_pos rfl, if_pos hin, m]; rfl
      · have : q = j * 3 + 1 := by omega
        subst this
        rw [if_neg (by omega), if_pos rfl, if_pos hin, m]; rfl
      · have : q = j * 3 + 2 := by omega
        subst this
        rw [if_pos rfl, if_pos hin, m]; rfl
    · rw [if_neg k1]
      by_cases k2 : q / 3 = j + 1
      · rw [if_pos k2]
        rcases (show q % 3 = 0 ∨ q % 3 = 1 ∨ q % 3 = 2 by omega) with m | m | m
        · have : q = (j + 1) * 3 := by omega
          subst this
          rw [if_neg (by omega), if_neg (by omega), if_neg (by omega), if_neg (by omega), if_neg (by omega), if_pos rfl, if_pos hin, m]; rfl
        · have : q = (j + 1) * 3 + 1 := by omega
          subst this
          rw [if_neg (by omega), if_neg (by omega), if_neg (by omega), if_neg (by omega), if_pos rfl, if_pos hin, m]; rfl
        · have : q = (j + 1) * 3 + 2 := by omega
          subst this
          rw [if_neg (by omega), if_neg (by omega), if_neg (by omega), if_pos rfl, if_pos hin, m]; rfl
      · rw [if_neg k2, if_neg (by omega), if_neg (by omega), if_neg (by omega), if_neg (by omega), if_neg (by omega), if_neg (by omega), e1]
  · have hge : xs.length * 3 ≤ q := by omega
    simp only [List.getElem?_set, List.length_set]
    rw [if_neg (by omega), if_neg (by omega), if_neg (by omega), if_neg (by omega), if_neg (by omega), if_neg (by omega), List.getElem?_append_right (by rw [hlen]; exact hge), List.getElem?_append_right (by rw [hlen, Isort.sw_length]; exact hge), hlen, hlen, Isort.sw_length]
end Go.Proofs.YtclhglickeoocaaGreatDoor
end

section
namespace Go.Proofs.YtclhglickeoocaaGreatDoor
open Go.RowKit Go.Maps Go

attribute [local irreducible] wpQuiet wpStill

theorem Kp.drewN {Nm : Nat → Prop} {a b : World} (h : Kp Nm a b) (n : Nat) : Kp Nm a (b.drewN n) := ⟨h.os, h.tape, h.output, h.size, h.block⟩
theorem Kp.setCell {B : Nat} {Nm : Nat → Prop} {a b : World} (h : Kp (fun k => Nm k ∨ k = B) a b) (o : Nat) (v : Value) : Kp (fun k => Nm k ∨ k = B) a (b.setCell ⟨B, o, none⟩ v) :=
  ⟨h.os, h.tape, h.output, by simpa [World.setCell] using h.size, fun k hk hn => (Below.heap_setCell _ _ _ k (fun e => hn (.inr e))).trans (h.block k hk hn)⟩

theorem CmpG.set {f : Nat → Fr} {cf : Nat → Nat → Int} {N : Nat} {Nm : Nat → Prop} {G : World → Prop} (h : CmpG f cf N Nm G) {w : World} (hg : G w) {B : Nat} (hB : ¬ Nm B) (o : Nat) (v : Value) : G (w.setCell ⟨B, o, none⟩ v) :=
  h.keep w _ hg (fun g hn => Below.heap_setCell _ _ _ g (fun e => hB (by rw [← show g = B from e]; exact hn)))

/-- Two elements exchanged. -/
theorem RowIs.six {f : Nat → Fr} {W : World} {B : Nat} {cs : List Value} {ys : List Nat} {rest : List Value} (h : W.heap[B]? = some (.cells ⟨cs⟩ 69 (0, 0))) {o0 o1 o2 o3 o4 o5 : Nat} {v0 v1 v2 v3 v4 v5 : Value}
    (e : (((((cs.set o0 v0).set o1 v1).set o2 v2).set o3 v3).set o4 v4).set o5 v5 = ys.flatMap (cells3 f) ++ rest) :
    RowIs f ((((((W.setCell ⟨B, o0, none⟩ v0).setCell ⟨B, o1, none⟩ v1).setCell ⟨B, o2, none⟩ v2).setCell ⟨B, o3, none⟩ v3).setCell ⟨B, o4, none⟩ v4).setCell ⟨B, o5, none⟩ v5) B ys rest := by
  have := heap_setCell_row (o := o5) (v := v5) (heap_setCell_row (o := o4) (v := v4) (heap_setCell_row (o := o3) (v := v3) (heap_setCell_row (o := o2) (v := v2) (heap_setCell_row (o := o1) (v := v1) (heap_setCell_row (o := o0) (v := v0) h)))))
  rw [e] at this
  exact this

theorem CmpG.drewN {f : Nat → Fr} {cf : Nat → Nat → Int} {N : Nat} {Nm : Nat → Prop} {G : World → Prop} (h : CmpG f cf N Nm G) {w : World} (hg : G w) (n : Nat) : G (w.drewN n) := h.keep w _ hg (fun _ _ => rfl)

set_option maxRecDepth 100000 in
set_option maxHeartbeats 400000 in
/-- slices.insertionSortCmpFunc. -/
theorem isort_calls (f : Nat → Fr) (cf : Nat → Nat → Int) (N : Nat) (Nm : Nat → Prop) (G : World → Prop) (hC : CmpG f cf N Nm G) (B cap : Nat) (xs : List Nat) (rest : List Value) (w : World)
    (hB : ¬ Nm B) (hxs : ∀ x ∈ xs, x < N) (hlen : xs.length ≤ 1000) (h1 : 1 ≤ xs.length) (hcap : xs.length ≤ cap) (hrow : RowIs f w B xs rest) (hG : G w) :
    Calls Tryz.prog 179 #[.slice (some ⟨B, 0, none⟩) xs.length cap, .int .i64 0, .int .i64 xs.length, .func (.func 44) #[] #[]] w
      fun e W' => e = .returned (.tuple #[]) ∧ G W' ∧ RowIs f W' B (Isort.outer cf (xs.length - 1) 1 xs) rest ∧ Kp (fun k => Nm k ∨ k = B) w W' := by
  generalize hn : xs.length = n at *
  generalize hT : Isort.outer cf (n - 1) 1 xs = target
  have HT := Lib.hid hT
  clear hT
  go_enter Tryz.func179, Tryz.ntmps179
  go_wp2
  go_loopw [8] (fun ii wr => ∃ (i : Nat) (ys : List Nat), 1 ≤ i ∧ i ≤ n ∧ ii = .int .i64 i ∧ ys.length = n ∧ (∀ x ∈ ys, x < N) ∧ Hid (Isort.outer cf (n - i) i ys = target) ∧ RowIs f wr B ys rest ∧ G wr ∧ Kp (fun k => Nm k ∨ k = B) w wr) (fun ii _ => n - (intOf ii).toNat)
  case atStart => exact ⟨1, xs, Nat.le_refl _, h1, rfl, hn, hxs, HT, hrow, hG, Kp.refl _ _⟩
  case round =>
    obtain ⟨i, ys, hi1, hi2, rfl, hl, hys, HO, hr, hg, hk⟩ := hrel
    by_cases h0 : i < n
    · have hs : Isort.outer cf (n - i) i ys = Isort.outer cf (n - (i + 1)) (i + 1) (Isort.inner cf i ys) := by
        rw [show n - i = (n - (i + 1)) + 1 by omega]; rfl
      rw [hs] at HO
      clear hs
      have HR := Lib.hid hr
      generalize hTI : Isort.inner cf i ys = tgt at HO
      have HTI := Lib.hid hTI
      have HK := Lib.hid hk
      have HL := Lib.hid hl
      have hin : (i : Int) < n := by omega
      clear hTI hk hxs hrow hG hl hr hn
      have hr := HR.out
      go_wp2
      go_loopw [9] (fun jj wr2 => ∃ (j : Nat) (zs : List Nat), j ≤ i ∧ jj = .int .i64 j ∧ Hid (zs.length = n) ∧ (∀ x ∈ zs, x < N) ∧ Hid (Isort.inner cf j zs = tgt) ∧ RowIs f wr2 B zs rest ∧ G wr2 ∧ Hid (Kp (fun k => Nm k ∨ k = B) w wr2)) (fun jj _ => (intOf jj).toNat)
      case atStart => exact ⟨i, ys, Nat.le_refl _, rfl, HL, hys, HTI, hr, hg, HK⟩
      case round =>
        clear hg hys
        obtain ⟨j, zs, hj, rfl, HZ, hzs, HI, hr2, hg2, HK2⟩ := hrel
        rcases Nat.eq_zero_or_pos j with hj0 | hj0
        · have HE : Hid (zs = tgt) := by subst hj0; exact HI
          have HJ0 := Lib.hid hj0
          have HD : Hid (decide (0 < j) = false) := Lib.hid (by rw [decide_eq_false_iff_not]; omega)
          clear hj0 hj
          go_wp2
          rename_i K2 hA2 Q0 K1 hA1 K0 hA0
          have HA0 := Lib.hid hA0
          have HA1 := Lib.hid hA1
          have HA2 := Lib.hid hA2
          clear hA0 hA1 hA2
          have hd := HD.out
          go_quiet (fail)
          have hA0 := HA0.out
          have hA1 := HA1.out
          have hA2 := HA2.out
          clear HA0 HA1 HA2 hd
          go_wp2
          go_roundw
          case rel => exact ⟨i + 1, zs, by omega, by omega, by go_num, HZ.out, hzs, by rw [HE.out]; exact HO, hr2, hC.drewN hg2 _, HK2.out.drewN _⟩
          case measure => simp [intOf]; omega
        · obtain ⟨m, hm⟩ : ∃ m, j = m + 1 := ⟨j - 1, by omega⟩
          have hzl := HZ.out
          have hjl : j < zs.length := by omega
          have hml : m < zs.length := by omega
          obtain ⟨c0, c1, c2⟩ := hr2.at_ hjl
          obtain ⟨d0, d1, d2⟩ := hr2.at_ hml
          have hx : zs.getD j 0 < N := hzs _ (by rw [List.getD_eq_getElem?_getD, List.getElem?_eq_getElem hjl]; exact List.getElem_mem hjl)
          have hy : zs.getD m 0 < N := hzs _ (by rw [List.getD_eq_getElem?_getD, List.getElem?_eq_getElem hml]; exact List.getElem_mem hml)
          have hin2 : Isort.inner cf j zs = if cf (zs.getD j 0) (zs.getD m 0) < 0 then Isort.inner cf m (Isort.sw zs m) else zs := by subst hm; rfl
          have hsw := sw_cells f (xs := zs) (rest := rest) (j := m) (by omega)
          rw [← hm] at hsw
          have hat : ∀ W, RowIs f W B zs rest → (W.cell? ⟨B, j * 3, none⟩ = some (.bool (f (zs.getD j 0)).s) ∧ W.cell? ⟨B, j * 3 + 1, none⟩ = some (.slice (f (zs.getD j 0)).p (f (zs.getD j 0)).m (f (zs.getD j 0)).k) ∧ W.cell? ⟨B, j * 3 + 2, none⟩ = some (.slice (f (zs.getD j 0)).q (f (zs.getD j 0)).d (f (zs.getD j 0)).e)) ∧
              (W.cell? ⟨B, m * 3, none⟩ = some (.bool (f (zs.getD m 0)).s) ∧ W.cell? ⟨B, m * 3 + 1, none⟩ = some (.slice (f (zs.getD m 0)).p (f (zs.getD m 0)).m (f (zs.getD m 0)).k) ∧ W.cell? ⟨B, m * 3 + 2, none⟩ = some (.slice (f (zs.getD m 0)).q (f (zs.getD m 0)).d (f (zs.getD m 0)).e)) ∧ ∀ o, W.frozen? ⟨B, o, none⟩ = false :=
            fun W h => ⟨h.at_ hjl, h.at_ hml, fun o => h.frozen o⟩
          have HBL := Lib.hid (show B < wr.drew.heap.size from (Array.getElem?_eq_some_iff.1 hr2).1)
          generalize hxv : zs.getD j 0 = x at *
          generalize hyv : zs.getD m 0 = y at *
          have HAT := Lib.hid hat
          clear hat
          have HI2 : Hid ((if cf x y < 0 then Isort.inner cf m (Isort.sw zs m) else zs) = tgt) := by rw [← hin2]; exact HI
          have HSW := Lib.hid hsw
          have HC := Lib.hid (fun W (hW : G W) => hC.cmp x y hx hy W hW)
          have HD : Hid (decide (0 < j) = true) := Lib.hid (by rw [decide_eq_true_eq]; omega)
          have HM := Lib.hid hm
          have HJI := Lib.hid hj
          have hjm : (j : Int) - 1 = (m : Int) := by omega
          have hwm : IntKind.i64.wrap (m : Int) = (m : Int) := IntWalk.i64_in _ (by omega)
          have hjn : (j : Int) < (n : Int) := by omega
          have hmn : (m : Int) < (n : Int) := by omega
          have HR2 := Lib.hid hr2
          have HCC := Lib.hid (HC.out wr.drew (hC.keep wr wr.drew hg2 (fun _ _ => rfl)))
          have HRD := Lib.hid (show RowIs f wr.drew B zs rest from hr2)
          have HKD := Lib.hid HK2.out.drew
          clear hin2 hsw hxv hyv hx hy hm HI hj0 hj hzl hjl hml hr2 hr HC HR2 hg2
          generalize hcv : cf x y = cv at *
          by_cases hlt : cv < 0
          · have HT2 : Hid (Isort.inner cf m (Isort.sw zs m) = tgt) := by have := HI2.out; rw [if_pos hlt] at this; exact this
            go_wp2
            have hd := HD.out
            go_still_tail 14, (by kernel_rfl)
            change wpList _ _ _ _ _ wr.drew
            generalize wr.drew = w2 at *
            go_wp2_with (go_at_call 44; refine (HCC.out).mono ?_; rintro e w3 ⟨rfl, hg3, hk3⟩)
            have hr3 : RowIs f w3 B zs rest := (hk3.block B HBL.out hB).trans HRD.out
            obtain ⟨⟨c0, c1, c2⟩, ⟨d0, d1, d2⟩, fz⟩ := HAT.out w3 hr3
            have HR3 := Lib.hid hr3
            have HK3 := Lib.hid (HKD.out.trans (hk3.wide (fun k h => Or.inl h)))
            have HG3 := Lib.hid hg3
            clear hr3 hg3 hk3
            go_region
            have hr4 := RowIs.six HR3.out HSW.out
            have hk4 := HK3.out.setCell (j * 3) (.bool (f y).s) |>.setCell (j * 3 + 1) (.slice (f y).p (f y).m (f y).k) |>.setCell (j * 3 + 2) (.slice (f y).q (f y).d (f y).e) |>.setCell (m * 3) (.bool (f x).s) |>.setCell (m * 3 + 1) (.slice (f x).p (f x).m (f x).k) |>.setCell (m * 3 + 2) (.slice (f x).q (f x).d (f x).e)
            have hg4 := hC.set (hC.set (hC.set (hC.set (hC.set (hC.set HG3.out hB (j * 3) (.bool (f y).s)) hB (j * 3 + 1) (.slice (f y).p (f y).m (f y).k)) hB (j * 3 + 2) (.slice (f y).q (f y).d (f y).e)) hB (m * 3) (.bool (f x).s)) hB (m * 3 + 1) (.slice (f x).p (f x).m (f x).k)) hB (m * 3 + 2) (.slice (f x).q (f x).d (f x).e)
            generalize ((((((w3.setCell ⟨B, j * 3, none⟩ (.bool (f y).s)).setCell ⟨B, j * 3 + 1, none⟩ (.slice (f y).p (f y).m (f y).k)).setCell ⟨B, j * 3 + 2, none⟩ (.slice (f y).q (f y).d (f y).e)).setCell ⟨B, m * 3, none⟩ (.bool (f x).s)).setCell ⟨B, m * 3 + 1, none⟩ (.slice (f x).p (f x).m (f x).k)).setCell ⟨B, m * 3 + 2, none⟩ (.slice (f x).q (f x).d (f x).e)) = w4 at *
            go_wp2
            go_roundw
            case rel => exact ⟨m, Isort.sw zs m, by have := HM.out; have := HJI.out; omega, by go_num, Lib.hid (by rw [Isort.sw_length]; exact HZ.out), (fun z hz => hzs z ((Isort.sw_perm (by have := HM.out; have := HZ.out; omega)).mem_iff.1 hz)), HT2, hr4, hC.keep w4 _ hg4 (fun _ _ => rfl), Lib.hid hk4.drew⟩
            case measure => have := HM.out; simp [intOf]; omega
          · have HE : Hid (zs = tgt) := by have := HI2.out; rw [if_neg hlt] at this; exact this
            have hlt2 : decide (cv < 0) = false := by rw [decide_eq_false_iff_not]; exact hlt
            go_wp2
            have hd := HD.out
            go_still_tail 14, (by kernel_rfl)
            change wpList _ _ _ _ _ wr.drew
            generalize wr.drew = w2 at *
            go_wp2_with (go_at_call 44; refine (HCC.out).mono ?_; rintro e w3 ⟨rfl, hg3, hk3⟩)
            have hr3 : RowIs f w3 B zs rest := (hk3.block B HBL.out hB).trans HRD.out
            have hk3' := HKD.out.trans (hk3.wide (fun k h => Or.inl h))
            go_roundw
            case rel => exact ⟨i + 1, zs, by omega, by omega, by go_num, HZ.out, hzs, by rw [HE.out]; exact HO, hr3, hg3, hk3'⟩
            case measure => simp [intOf]; omega
    · have he : i = n := by omega
      have HT2 : Hid (ys = target) := by have := HO.out; rw [he, Nat.sub_self] at this; exact this
      have hge : ¬ ((i : Int) < (n : Int)) := by omega
      have HK := Lib.hid hk
      clear hk he h0
      go_wp2
      go_end0
      exact ⟨rfl, hg, by rw [← HT2.out]; exact hr, HK.out⟩
end Go.Proofs.YtclhglickeoocaaGreatDoor
end

section
namespace Go.Proofs.YtclhglickeoocaaGreatDoor
open Go.RowKit Go.Maps Go

theorem len7 (w : World) : Calls Tryz.prog 74 ⟨[.int .u64 7]⟩ w fun e w' => e = .returned (.int .i64 3) ∧ Below w.heap.size w w' :=
  Ev.calls_of_ans (E := Ev.Tryz.env) Ev.Tryz.ok 4000 100 (by kernel_rfl) (by decide) rfl rfl w

set_option maxRecDepth 100000 in
set_option maxHeartbeats 400000 in
/-- slices.pdqsortCmpFunc over seven fractions. -/
theorem pdq7 (f : Nat → Fr) (cf : Nat → Nat → Int) (N : Nat) (Nm : Nat → Prop) (G : World → Prop) (hC : CmpG f cf N Nm G) (B cap : Nat) (xs : List Nat) (rest : List Value) (lim : Int) (w : World)
    (hB : ¬ Nm B) (hxs : ∀ x ∈ xs, x < N) (hlen : xs.length = 7) (hcap : 7 ≤ cap) (hrow : RowIs f w B xs rest) (hG : G w) :
    Calls Tryz.prog 133 #[.slice (some ⟨B, 0, none⟩) 7 cap, .int .i64 0, .int .i64 7, .int .i64 lim, .func (.func 44) #[] #[]] w
      fun e W' => e = .returned (.tuple #[]) ∧ G W' ∧ RowIs f W' B (Isort.outer cf 6 1 xs) rest ∧ Kp (fun k => Nm k ∨ k = B) w W' := by
  have hs := isort_calls f cf N Nm G hC B cap xs rest w hB hxs (by omega) (by omega) (by omega) hrow hG
  rw [hlen] at hs
  have HS := Lib.hid hs
  clear hs hrow hG hC hxs hlen
  go_enter Tryz.func133, Tryz.ntmps133
  go_wp2
  refine wp_loop_rounds 1 ?_
  rw [rounds_succ]
  go_wp2_with (go_at_call 179; refine (HS.out).mono ?_; rintro e w' ⟨rfl, h1, h2, h3⟩)
  refine bodyPost_ret (results_none rfl _ _ _) rfl ?_
  exact ⟨rfl, h1, h2, h3⟩

set_option maxRecDepth 100000 in
set_option maxHeartbeats 400000 in
/-- slices.SortFunc over seven fractions. -/
theorem sortFunc7 (f : Nat → Fr) (cf : Nat → Nat → Int) (N : Nat) (Nm : Nat → Prop) (G : World → Prop) (hC : CmpG f cf N Nm G) (B cap : Nat) (xs : List Nat) (rest : List Value) (w : World)
    (hB : ¬ Nm B) (hN : ∀ g, Nm g → g < w.heap.size) (hxs : ∀ x ∈ xs, x < N) (hlen : xs.length = 7) (hcap : 7 ≤ cap) (hrow : RowIs f w B xs rest) (hG : G w) :
    Calls Tryz.prog 80 #[.slice (some ⟨B, 0, none⟩) 7 cap, .func (.func 44) #[] #[]] w
      fun e W' => e = .returned (.tuple #[]) ∧ G W' ∧ RowIs f W' B (Isort.outer cf 6 1 xs) rest ∧ Kp (fun k => Nm k ∨ k = B) w W' := by
  have hBl : B < w.heap.size := (Array.getElem?_eq_some_iff.1 hrow).1
  have hs : ∀ w2, Below w.heap.size w w2 → Calls Tryz.prog 133 #[.slice (some ⟨B, 0, none⟩) 7 cap, .int .i64 0, .int .i64 7, .int .i64 3, .func (.func 44) #[] #[]] w2
      fun e W' => e = .returned (.tuple #[]) ∧ G W' ∧ RowIs f W' B (Isort.outer cf 6 1 xs) rest ∧ Kp (fun k => Nm k ∨ k = B) w W' := fun w2 hb =>
    (pdq7 f cf N Nm G hC B cap xs rest 3 w2 hB hxs hlen hcap ((hb.block B hBl).trans hrow) (hC.keep w w2 hG (fun g hg => hb.block g (hN g hg)))).mono fun e W' ⟨h1, h2, h3, h4⟩ =>
      ⟨h1, h2, h3, Kp.trans ⟨hb.os, hb.tape, hb.output, hb.size, fun k hk _ => hb.block k hk⟩ h4⟩
  have HS := Lib.hid hs
  have HL := Lib.hid len7
  clear hs hrow hG hC hxs hlen hN
  go_enter Tryz.func80, Tryz.ntmps80
  go_wp2_with (first
    | (go_at_call 74; refine (HL.out _).mono ?_; rintro e w2 ⟨rfl, hb⟩)
    | (go_at_call 133; refine (HS.out _ hb).mono ?_; rintro e w' ⟨rfl, h1, h2, h3⟩))
  go_end0
  exact ⟨rfl, h1, h2, h3⟩

set_option maxRecDepth 100000 in
set_option maxHeartbeats 400000 in
/-- slices.SortedFunc over the elements of a map of seven fractions: whatever order the map gives them in, they come out in order. -/
theorem sortedFunc7 (f : Nat → Fr) (cf : Nat → Nat → Int) (hcf : ∀ a b, cf a b < 0 ↔ a < b) (Nm : Nat → Prop) (G : World → Prop) (hC : CmpG f cf 7 Nm G) (Bm mb clock : Nat) (es : Array MapEntry)
    (rk : Nat → Nat) (hrk : ∀ i, i < 7 → rk i < 7) (hri : ∀ i j, i < 7 → j < 7 → rk i = rk j → i = j)
    (hS : SevMap (fun i => .agg #[.bool (f (rk i)).s, .slice (f (rk i)).p (f (rk i)).m (f (rk i)).k, .slice (f (rk i)).q (f (rk i)).d (f (rk i)).e]) es 7) (hlt : 7 ≤ clock) (w : World)
    (hBm : Bm < w.heap.size) (hm : w.cell? ⟨Bm, 0, none⟩ = some (.map (some mb))) (hb : w.heap[mb]? = some (.map es clock)) (hN : ∀ g, Nm g → g < w.heap.size) (hG : G w) :
    Calls Tryz.prog 42 #[.func (.func 81) #[] #[.pointer (some ⟨Bm, 0, none⟩)], .func (.func 44) #[] #[]] w
      fun e W' => ∃ g cap rest, e = .returned (.slice (some ⟨g, 0, none⟩) 7 cap) ∧ w.heap.size ≤ g ∧ 7 ≤ cap ∧ rest.length = (cap - 7) * 3 ∧ G W' ∧ RowIs f W' g (List.range 7) rest ∧ Kp Nm w W' := by
  have hcol : Calls Tryz.prog 79 #[.func (.func 81) #[] #[.pointer (some ⟨Bm, 0, none⟩)]] w fun e W' => ∃ g cap rest xs, e = .returned (.slice (some ⟨g, 0, none⟩) 7 cap) ∧ w.heap.size ≤ g ∧ 7 ≤ cap ∧ rest.length = (cap - 7) * 3 ∧
      RowIs f W' g xs rest ∧ xs.Nodup ∧ (∀ i, i ∈ xs ↔ i < 7) ∧ xs.length = 7 ∧ Below w.heap.size w W' := by
    refine callsIn_wide.1 ((collect_in Fence.wide 6 trivial trivial rfl (by omega) (fun i => f (rk i)) 81 #[.pointer (some ⟨Bm, 0, none⟩)] trivial (enters_of Tryz.func81 (by kernel_rfl) rfl) _ _ 7 (by omega) w
      (values_stops Fence.wide (6 - 1 - 1) trivial rfl (by omega) (fun i => f (rk i)) Bm mb 7 clock es hS hlt w hBm hm hb)).mono ?_)
    rintro e W' ⟨v, xs, rfl, ⟨hnd, hmem⟩, hrow, hbl⟩
    have hl : xs.length = 7 := by
      have h1 := List.Nodup.length_le_of_subset (l₂ := List.range 7) hnd (fun i hi => List.mem_range.2 ((hmem i).1 hi))
      have h2 := List.Nodup.length_le_of_subset (l₂ := xs) (List.nodup_range (n := 7)) (fun i hi => (hmem i).2 (List.mem_range.1 hi))
      simp at h1 h2; omega
    rw [hl] at hrow
    have hfm : xs.flatMap (cells3 fun i => f (rk i)) = (xs.map rk).flatMap (cells3 f) := by rw [List.flatMap_map]; rfl
    have hnd2 : (xs.map rk).Nodup := by
      rw [List.nodup_iff_pairwise_ne] at hnd ⊢
      rw [List.pairwise_map]
      exact hnd.imp_of_mem fun {a b} ha hb hne e => hne (hri a b ((hmem a).1 ha) ((hmem b).1 hb) e)
    have hl2 : (xs.map rk).length = 7 := by rw [List.length_map]; exact hl
    have hlt2 : ∀ i ∈ xs.map rk, i < 7 := fun i hi => by
      obtain ⟨j, hj, rfl⟩ := List.mem_map.1 hi
      exact hrk j ((hmem j).1 hj)
    have hmem2 : ∀ i, i ∈ xs.map rk ↔ i < 7 := fun i => ⟨hlt2 i, fun hi => by
      apply Classical.byContradiction
      intro hn
      have := List.Nodup.length_le_of_subset (l₂ := List.range 7) (l₁ := i :: xs.map rk) (List.nodup_cons.2 ⟨hn, hnd2⟩) (fun k hk => by
        rcases List.mem_cons.1 hk with rfl | hk
        · exact List.mem_range.2 hi
        · exact List.mem_range.2 (hlt2 k hk))
      simp at this
      omega⟩
    rcases hrow.2 with ⟨_, h0⟩ | ⟨g, cap, cur, rfl, hg, hgb, h1, h2, h3, h4⟩
    · omega
    · refine ⟨g, cap, cur.toList.drop (7 * 3), xs.map rk, rfl, hg, h1, ?_, ?_, hnd2, hmem2, hl2, hbl⟩
      · rw [List.length_drop, Array.length_toList, h3]; omega
      · show W'.heap[g]? = _
        rw [hgb, ← hfm, ← h4, List.take_append_drop]
  have hsrt : ∀ W1 g cap rest xs, w.heap.size ≤ g → 7 ≤ cap → RowIs f W1 g xs rest → xs.Nodup → (∀ i, i ∈ xs ↔ i < 7) → xs.length = 7 → Below w.heap.size w W1 →
      Calls Tryz.prog 80 #[.slice (some ⟨g, 0, none⟩) 7 cap, .func (.func 44) #[] #[]] W1 fun e W' => e = .returned (.tuple #[]) ∧ G W' ∧ RowIs f W' g (List.range 7) rest ∧ Kp Nm w W' := by
    intro W1 g cap rest xs hg hc hr hnd hmem hl hbl
    have hgN : ¬ Nm g := fun h => by have := hN g h; omega
    refine (sortFunc7 f cf 7 Nm G hC g cap xs rest W1 hgN (fun k hk => Nat.lt_of_lt_of_le (hN k hk) hbl.size) (fun x hx => (hmem x).1 hx) hl hc hr (hC.keep w W1 hG (fun k hk => hbl.block k (hN k hk)))).mono ?_
    rintro e W' ⟨rfl, h1, h2, h3⟩
    have hso := Isort.outer_sorts (cf := cf) hcf hnd hmem (by omega)
    rw [hl] at hso
    rw [hso] at h2
    exact ⟨rfl, h1, h2, h3.os.trans hbl.os, h3.tape.trans hbl.tape, h3.output.trans hbl.output, Nat.le_trans hbl.size h3.size, fun k hk hn => (h3.block k (Nat.lt_of_lt_of_le hk hbl.size) (fun h => h.elim hn (fun e => by omega))).trans (hbl.block k hk)⟩
  have HCOL := Lib.hid hcol
  have HSRT := Lib.hid hsrt
  clear hcol hsrt hm hb hS hG hC hN
  go_enter Tryz.func42, Tryz.ntmps42
  go_wp2_with (first
    | (go_at_call 79; refine (HCOL.out).mono ?_; rintro e W1 ⟨g, cap, rest, xs, rfl, hg, hc, hrl, hr, hnd, hmem, hl, hbl⟩)
    | (go_at_call 80; refine (HSRT.out _ _ _ _ _ hg hc hr hnd hmem hl hbl).mono ?_; rintro e W' ⟨rfl, h1, h2, h3⟩))
  go_ret
  exact ⟨g, cap, rest, rfl, hg, hc, hrl, h1, h2, h3⟩
end Go.Proofs.YtclhglickeoocaaGreatDoor
end

