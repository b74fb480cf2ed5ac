import Derived.RangeFuncNested
import Derived.RangeFuncBound
import Derived.RangeFuncCalls
import Derived.RangeFuncLeaves
import Derived.RangeFuncGives
import Derived.WalkKit
import Derived.OwnWalkIn
import Derived.TacticsInMore
import Derived.LoopNIn
import Derived.LoopIn
import Derived.Sort.MapsRangeIn
import Derived.Maps.AppendAt
import Derived.Test.YtclhglickeoocaaGreatDoorProg
import Derived.RangeFuncBox
import Derived.KernelRfl
import Init
section
/- maps.Values over a map whose entries are numbered: the elements come in some order. -/
namespace Go.Proofs.YtclhglickeoocaaGreatDoor
open Go.RowKit Go.Maps Go
open Go.ChangeMaps (setBlock)

/-- A fraction's three cells. -/
structure Fr where
  s : Bool
  p : Option Addr
  m : Nat
  k : Nat
  q : Option Addr
  d : Nat
  e : Nat

/-- The entries of a map of N: each one's number is its place, and its element the value with this number. -/
structure SevMap (enc : Nat → Value) (es : Array MapEntry) (N : Nat) : Prop where
  born : es.toList.map (·.born) = List.range N
  val : ∀ e ∈ es.toList, e.val = enc e.born

theorem SevMap.lt {enc : Nat → Value} {es : Array MapEntry} {N : Nat} (h : SevMap enc es N) {e : MapEntry} (he : e ∈ es.toList) : e.born < N := by
  have : e.born ∈ es.toList.map (·.born) := List.mem_map_of_mem he
  rw [h.born] at this
  exact List.mem_range.1 this

theorem SevMap.has {enc : Nat → Value} {es : Array MapEntry} {N i : Nat} (h : SevMap enc es N) (hi : i < N) : ∃ e ∈ es.toList, e.born = i := by
  have : i ∈ es.toList.map (·.born) := by rw [h.born]; exact List.mem_range.2 hi
  obtain ⟨e, he, hb⟩ := List.mem_map.1 this
  exact ⟨e, he, hb⟩

section
variable {F : Fence} {n : Nat} {P : Program} (w : World) {ops : Array Oper} {rest : List Oper} {o : Oper} {a : Act} {Q : Exit → Act → World → Prop}

theorem grownBy_setBlock {w w1 : World} {r : Nat} (o : Obj) (h : w1 = w ∨ w1 = w.drew) : w.grownBy (setBlock w1 r o) (some r) := by
  have e : (setBlock w1 r o).heap = w.heap.setIfInBounds r o := by rcases h with rfl | rfl <;> rfl
  refine ⟨by rcases h with rfl | rfl <;> rfl, by rcases h with rfl | rfl <;> rfl, by rcases h with rfl | rfl <;> rfl, by rw [e]; simp, fun k hk hne => ?_⟩
  have : r ≠ k := fun e => hne (by rw [e])
  rw [e, Array.getElem?_setIfInBounds, if_neg this]

/-- A step through such a map: all have come, or one that has not. -/
theorem wpListIn_next_sev (hg : o.guard = none) (it : Operand) (hop : o.op = Op.next it false) (enc : Nat → Value) (N b r since c0 clock : Nat) (seen : List Nat) (es : Array MapEntry)
    (hS : SevMap enc es N) (hlt : N ≤ since) (hsc : since ≤ c0) (hit : a.eval it = .pointer (some ⟨r, 0, none⟩))
    (hr : w.heap[r]? = some (.mapIter (some b) since ⟨seen⟩ c0)) (hb : w.heap[b]? = some (.map es clock)) (hbr : b ≠ r)
    (hDone : (∀ i, i < N → i ∈ seen) → wpListIn F n P ops Q rest (a.put o.dst (.tuple #[.bool false])) w)
    (hMore : ∀ (i : Nat) (key : Value) (w' : World), i < N → i ∉ seen → w'.heap[r]? = some (.mapIter (some b) since ⟨seen ++ [i]⟩ clock) → w'.heap[b]? = some (.map es clock) → w.grownBy w' (some r) →
      (Instr.entry (.pointer (some ⟨r, 0, none⟩))).run P w' = .ok (.tuple #[key, enc i]) w' → wpListIn F n P ops Q rest (a.put o.dst (.tuple #[.bool true, key, enc i])) w') :
    wpListIn F n P ops Q (o :: rest) a w := by
  refine wpListIn_plain hg fun K' hK' => ?_
  unfold Oper.wpIn
  refine ⟨by simp [Oper.about, hop], ?_⟩
  rw [Oper.semAt_plain F _ _ (by rw [hop]; intro c hc'; cases hc')]
  rcases run_next_at (P := P) w o.type r b since c0 ⟨seen⟩ es clock hr hb (fun x hx => Nat.lt_of_lt_of_le (hS.lt hx) hlt) hsc with ⟨h0, hrun⟩ | ⟨e, he, w1, hw1, hrun⟩
  · simp [execOp, hop, hit, hrun, Result.andThen]
    refine hK' _ _ (hDone fun i hi => ?_)
    obtain ⟨e, he, rfl⟩ := hS.has hi
    apply Classical.byContradiction
    intro hni
    have : e ∈ (Go.leftOf es ⟨seen⟩).toList := by simp [Go.leftOf, hni]; exact Array.mem_toList_iff.1 he
    have h1 : Go.leftOf es ⟨seen⟩ = #[] := Array.eq_empty_of_size_eq_zero h0
    rw [h1] at this
    cases this
  · have hmem : e ∈ es.toList ∧ e.born ∉ seen := by
      have := he
      simp [Go.leftOf] at this
      exact ⟨Array.mem_toList_iff.2 this.1, this.2⟩
    have hw1h : w1.heap = w.heap := by rcases hw1 with rfl | rfl <;> rfl
    have hrl : r < w1.heap.size := by rw [hw1h]; exact (Array.getElem?_eq_some_iff.1 hr).1
    have hseen : ((⟨seen⟩ : Array Nat).push e.born) = ⟨seen ++ [e.born]⟩ := by apply Array.ext'; simp
    have hr2 : (setBlock w1 r (.mapIter (some b) since ((⟨seen⟩ : Array Nat).push e.born) clock)).heap[r]? = some (.mapIter (some b) since ((⟨seen⟩ : Array Nat).push e.born) clock) := by simp [setBlock, hrl]
    have hb2 : (setBlock w1 r (.mapIter (some b) since ((⟨seen⟩ : Array Nat).push e.born) clock)).heap[b]? = some (.map es clock) := by
      simp [setBlock, Array.getElem?_setIfInBounds, Ne.symm hbr, hw1h, hb]
    have hent := run_entry_at (P := P) (setBlock w1 r (.mapIter (some b) since ((⟨seen⟩ : Array Nat).push e.born) clock)) r b since ⟨seen⟩ es clock e hr2 hb2 hmem.1 (by rw [hS.born]; exact List.nodup_range)
    rw [hS.val e hmem.1] at hent hrun
    rw [hseen] at hent hr2 hb2 hrun
    have hgr := grownBy_setBlock (r := r) (.mapIter (some b) since ⟨seen ++ [e.born]⟩ clock) hw1
    generalize setBlock w1 r (.mapIter (some b) since ⟨seen ++ [e.born]⟩ clock) = w2 at *
    simp [execOp, hop, hit, hrun, Result.andThen]
    exact hK' _ _ (hMore e.born e.key _ (hS.lt hmem.1) hmem.2 hr2 hb2 hgr hent)

/-- The start of such a range. -/
theorem wpListIn_range_sev (hg : o.guard = none) (m : Operand) (t : TypeId) (hop : o.op = Op.range t m) (k e : TypeId) (ht : P.underlying t = some (.map k e)) (b clock : Nat) (es : Array MapEntry)
    (hm : a.eval m = .map (some b)) (hb : w.heap[b]? = some (.map es clock))
    (hK : wpListIn F n P ops Q rest (a.put o.dst (.pointer (some ⟨w.heap.size, 0, none⟩))) (w.alloc (.mapIter (some b) clock #[] clock))) :
    wpListIn F n P ops Q (o :: rest) a w := by
  refine wpListIn_plain hg fun K' hK' => ?_
  unfold Oper.wpIn
  refine ⟨by simp [Oper.about, hop], ?_⟩
  rw [Oper.semAt_plain F _ _ (by rw [hop]; intro c hc'; cases hc')]
  have hrun := run_range_map (P := P) w t k e b es clock ht hb
  simp [execOp, hop, hm, hrun, Result.andThen]
  exact hK' _ _ hK
end
end Go.Proofs.YtclhglickeoocaaGreatDoor
end

section
/- maps.Values: the iterator's own function. -/
namespace Go.Proofs.YtclhglickeoocaaGreatDoor
open Go.RowKit Go.Maps Go
attribute [local go_sem] Oper.semAt_some

/-- How many entries an iterator has handed out. -/
def seenAt (w : World) (r : Nat) : Nat :=
  match w.heap[r]? with
  | some (.mapIter _ _ seen _) => seen.size
  | _ => 0

theorem seenAt_eq {w : World} {r : Nat} {m : Option Nat} {s c : Nat} {seen : List Nat} (h : w.heap[r]? = some (.mapIter m s ⟨seen⟩ c)) : seenAt w r = seen.length := by
  unfold seenAt; rw [h]; simp

theorem nodup_le {N : Nat} {l : List Nat} (hn : l.Nodup) (h : ∀ i ∈ l, i < N) : l.length ≤ N := by
  have := List.Nodup.length_le_of_subset (l₂ := List.range N) hn (fun i hi => List.mem_range.2 (h i hi))
  simpa using this

set_option maxRecDepth 100000 in
set_option maxHeartbeats 1000000 in
theorem values1_in (F : Fence) (n : Nat) (h81 : F.fn 81) (hro : F.round = none) (hn : 1 ≤ n) (f : Nat → Fr) (l Bm mb N clock : Nat) (es : Array MapEntry)
    (hS : SevMap (fun i => .agg #[.bool (f i).s, .slice (f i).p (f i).m (f i).k, .slice (f i).q (f i).d (f i).e]) es N) (hlt : N ≤ clock) (J Jx : List Nat → World → Prop)
    (hY : ∀ pre i W, J pre W → pre.length < N → YieldAt F (n - 1) Tryz.prog l #[.agg #[.bool (f i).s, .slice (f i).p (f i).m (f i).k, .slice (f i).q (f i).d (f i).e]] W fun e W' => (e = .returned (.bool true) ∧ J (pre ++ [i]) W' ∧ KeepsWalks W W') ∨ (e = .returned (.bool false) ∧ Jx (pre ++ [i]) W'))
    (W : World) (hJ : AbidesFrom W.heap.size J) (hm : W.cell? ⟨Bm, 0, none⟩ = some (.map (some mb))) (hb : W.heap[mb]? = some (.map es clock)) (h0 : J [] W) :
    CallsIn F n Tryz.prog 81 #[.func (.yield l) #[] #[], .pointer (some ⟨Bm, 0, none⟩)] W fun e W' => (∃ v, e = .returned v) ∧ ((∃ xs : List Nat, (xs.Nodup ∧ (∀ i, i ∈ xs ↔ i < N)) ∧ J xs W') ∨ (∃ pre : List Nat, True ∧ Jx pre W')) := by
  have hmbl : mb < W.heap.size := (Array.getElem?_eq_some_iff.1 hb).1
  refine callsIn_of_wp Tryz.func81 rfl h81 ?_ hro
  simp only [Tryz.ntmps81, List.size_toArray, List.length_cons, List.length_nil, Nat.reduceAdd, Nat.reduceSub, Array.replicate_succ, Array.replicate_zero, List.push_toArray, List.append_toArray, List.nil_append, List.cons_append]
  gi_wp2_with (first
    | (gi_at_range; refine wpListIn_range_sev _ rfl _ 80 rfl 9 69 Tryz.underlying80 mb clock es rfl hb ?_)
    | gi_in)
  go_frame
  have hr0 : (W.alloc (.mapIter (some mb) clock #[] clock)).heap[W.heap.size]? = some (.mapIter (some mb) clock #[] clock) := World.alloc_heap_new W _
  have hb0 : (W.alloc (.mapIter (some mb) clock #[] clock)).heap[mb]? = some (.map es clock) := (Below.heap_alloc _ _ mb hmbl).trans hb
  have hJ0 : J [] (W.alloc (.mapIter (some mb) clock #[] clock)) := hJ [] W _ none h0 (World.grownBy_alloc _ _ none) (fun r e => by cases e)
  gi_loopw [4] (fun _ wr => ∃ (seen : List Nat) (c0 : Nat), wr.heap[W.heap.size]? = some (.mapIter (some mb) clock ⟨seen⟩ c0) ∧ wr.heap[mb]? = some (.map es clock) ∧ clock ≤ c0 ∧ seen.Nodup ∧ (∀ i ∈ seen, i < N) ∧ J seen wr)
    (fun _ wr => N - seenAt wr W.heap.size)
  case atStart => exact ⟨[], clock, hr0, hb0, Nat.le_refl _, List.nodup_nil, (fun i hi => by cases hi), hJ0⟩
  case round =>
    obtain ⟨seen, c0, hr, hbm, hc0, hnd, hsl, hJs⟩ := hrel
    gi_wp2_with (first
      | (gi_at_next; refine wpListIn_next_sev _ rfl _ rfl (fun i => .agg #[.bool (f i).s, .slice (f i).p (f i).m (f i).k, .slice (f i).q (f i).d (f i).e]) N mb W.heap.size clock c0 clock seen es hS hlt hc0 rfl hr hbm (by omega) ?_ ?_)
      | gi_in)
    · intro hall
      gi_wp2
      go_end0
      exact ⟨⟨_, rfl⟩, .inl ⟨seen, ⟨hnd, fun i => ⟨hsl i, hall i⟩⟩, hJs⟩⟩
    · intro i key w2 hi hni hr2 hb2 hg2 hen
      have hJ2 : J seen w2 := hJ seen wr w2 (some W.heap.size) hJs hg2 (fun r e => by cases e; exact ⟨Nat.le_refl _, _, hr, rfl⟩)
      have hlen : seen.length < N := by
        have := nodup_le (N := N) (l := i :: seen) (List.nodup_cons.2 ⟨hni, hnd⟩) (fun j hj => by
          rcases List.mem_cons.1 hj with rfl | hj
          · exact hi
          · exact hsl j hj)
        simp at this; omega
      have hJ3 : J seen (w2.alloc (.cells #[.bool (f i).s, .slice (f i).p (f i).m (f i).k, .slice (f i).q (f i).d (f i).e] 69)) := hJ seen w2 _ none hJ2 (World.grownBy_alloc _ _ none) (fun r e => by cases e)
      obtain ⟨fn, tmps, assign, body, hy, hR⟩ := hY seen i (w2.alloc (.cells #[.bool (f i).s, .slice (f i).p (f i).m (f i).k, .slice (f i).q (f i).d (f i).e] 69)) hJ3 hlen
      have hr3 : (w2.alloc (.cells #[.bool (f i).s, .slice (f i).p (f i).m (f i).k, .slice (f i).q (f i).d (f i).e] 69)).heap[W.heap.size]? = some (.mapIter (some mb) clock ⟨seen ++ [i]⟩ clock) := (Below.heap_alloc _ _ _ (Array.getElem?_eq_some_iff.1 hr2).1).trans hr2
      have hb3 : (w2.alloc (.cells #[.bool (f i).s, .slice (f i).p (f i).m (f i).k, .slice (f i).q (f i).d (f i).e] 69)).heap[mb]? = some (.map es clock) := (Below.heap_alloc _ _ _ (Array.getElem?_eq_some_iff.1 hb2).1).trans hb2
      gi_wp2
      refine hR.mono ?_
      rintro e W3 (⟨rfl, hJ4, hk3⟩ | ⟨rfl, hJx4⟩)
      · have hr4 := hk3.same _ _ hr3 rfl
        have hb4 := hk3.same _ _ hb3 rfl
        gi_wp2
        go_roundw
        case rel => exact ⟨seen ++ [i], clock, hr4, hb4, Nat.le_refl _, List.nodup_append.2 ⟨hnd, by simp, by simp; exact fun x hx e => hni (e ▸ hx)⟩, (fun j hj => by
          rcases List.mem_append.1 hj with hj | hj
          · exact hsl j hj
          · simp at hj; omega), hJ4⟩
        case measure => rw [seenAt_eq hr4, seenAt_eq hr]; simp; omega
      · gi_wp2
        refine bodyPost_ret (results_none rfl _ _ _) rfl ?_
        exact ⟨⟨_, rfl⟩, .inr ⟨_, trivial, hJx4⟩⟩

/-- What maps.Values hands back is an iterator over the elements. -/
theorem values_stops (F : Fence) (n : Nat) (h81 : F.fn 81) (hro : F.round = none) (hn : 1 ≤ n) (f : Nat → Fr) (Bm mb N clock : Nat) (es : Array MapEntry)
    (hS : SevMap (fun i => .agg #[.bool (f i).s, .slice (f i).p (f i).m (f i).k, .slice (f i).q (f i).d (f i).e]) es N) (hlt : N ≤ clock) (w : World) (hBm : Bm < w.heap.size) (hm : w.cell? ⟨Bm, 0, none⟩ = some (.map (some mb))) (hb : w.heap[mb]? = some (.map es clock)) :
    SeqStopsK F n Tryz.prog 81 #[.pointer (some ⟨Bm, 0, none⟩)] (fun i => #[.agg #[.bool (f i).s, .slice (f i).p (f i).m (f i).k, .slice (f i).q (f i).d (f i).e]]) KeepsWalks (fun xs => xs.Nodup ∧ (∀ i, i ∈ xs ↔ i < N)) (fun _ => True) N w := fun l J Jx W hW hJ _ hY h0 => by
  have hmb := (Array.getElem?_eq_some_iff.1 hb).1
  exact values1_in F n h81 hro hn f l Bm mb N clock es hS hlt J Jx hY W hJ ((hW.cell (p := ⟨Bm, 0, none⟩) hBm).trans hm) ((hW.block mb hmb).trans hb) h0
end Go.Proofs.YtclhglickeoocaaGreatDoor
end

section
/- slices.AppendSeq and slices.Collect over fractions. -/
namespace Go.Proofs.YtclhglickeoocaaGreatDoor
open Go.RowKit Go.Maps Go
attribute [local go_sem] Oper.semAt_some

/-- The three cells of a fraction. -/
def cells3 (f : Nat → Fr) (i : Nat) : List Value := [.bool (f i).s, .slice (f i).p (f i).m (f i).k, .slice (f i).q (f i).d (f i).e]

theorem info69 : (Tryz.prog.info? 69).map (fun i => (i.zero, i.size, i.bytes)) = some (some (.agg #[.bool false, .slice none 0 0, .slice none 0 0]), 3, 56) := by kernel_rfl

theorem cell3_new (w : World) (a b c : Value) (t : TypeId) : ∀ j u, [a, b, c][j]? = some u → (w.alloc (.cells #[a, b, c] t)).cell? ((⟨w.heap.size, 0, none⟩ : Addr).add j) = some u := by
  intro j u hj
  match j, hj with
  | 0, hj => simp at hj; subst hj; simp [Addr.add]
  | 1, hj => simp at hj; subst hj; simp [Addr.add]
  | 2, hj => simp at hj; subst hj; simp [Addr.add]

set_option maxRecDepth 100000 in
set_option maxHeartbeats 2000000 in
theorem appendSeq_in (F : Fence) (n : Nat) (h132 : F.fn 132) (hro : F.round = none) (hn : 2 ≤ n) (f : Nat → Fr) (g : Nat) (lb : Array Value) (hFg : F.fn g) (eg : ∀ args w, (callFunc g args).run Tryz.prog w = .ok (.enter g args) w)
    (S Sp : List Nat → Prop) (N : Nat) (hN : N ≤ 1000) (w : World)
    (hseq : SeqStopsK F (n - 1) Tryz.prog g lb (fun i => #[.agg #[.bool (f i).s, .slice (f i).p (f i).m (f i).k, .slice (f i).q (f i).d (f i).e]]) KeepsWalks S Sp N w) :
    CallsIn F n Tryz.prog 132 #[.slice none 0 0, .func (.func g) #[] lb] w fun e W' => ∃ (v : Value) (xs : List Nat), e = .returned v ∧ S xs ∧ W'.ownsRow w.heap.size 69 3 v xs.length (xs.flatMap (cells3 f)) ∧ Below w.heap.size w W' := by
  have h1 : 1 ≤ n := by omega
  obtain ⟨i0, hi, hz0, hz1, hz2⟩ := info_parts info69
  refine callsIn_of_wp_marks Tryz.func132 rfl h132 ?_ hro
  simp only [Tryz.ntmps132, List.size_toArray, List.length_cons, List.length_nil, Nat.reduceAdd, Nat.reduceSub, Array.replicate_succ, Array.replicate_zero, List.push_toArray, List.append_toArray, List.nil_append, List.cons_append]
  gi_wp2
  have hb0 : Below w.heap.size w (w.alloc (.cells #[.slice none 0 0] 86)) := (Below.refl _ w).alloc (Nat.le_refl _) _
  refine wpIn_rangeFunc_ownH hro h1 (gf := g) (lb := lb) rfl hFg eg hseq walksK_t walksK_b hb0 (fun _ => rfl)
    (fun (pre : List Nat) (W : World) => (∃ v, Boxed W w.heap.size 86 v ∧ W.ownsRow w.heap.size 69 3 v pre.length (pre.flatMap (cells3 f)) ∧ True) ∧ Below w.heap.size w W)
    (fun _ _ _ => False)
    (OwnFrom.and (Own.from (holdsRow_own w.heap.size w.heap.size 86 69 3 (fun (pre : List Nat) => pre.length) (fun pre => pre.flatMap (cells3 f)) (fun _ _ => True)) _) (ownFrom_below (Nat.le_refl _) (by simp)))
    (fun _ _ _ _ _ hs _ _ => hs)
    ⟨⟨_, Boxed.new w 86 _, World.ownsRow_nil _ _ _ _, trivial⟩, hb0⟩
    (fun (x : Nat) (a' : Act) (W : World) => ∃ Bx, w.heap.size < Bx ∧ W.heap[Bx]? = some (.cells #[.bool (f x).s, .slice (f x).p (f x).m (f x).k, .slice (f x).q (f x).d (f x).e] 69 (0, 0)) ∧
      a' = { tmps := #[.slice none 0 0, .func (.func g) #[] lb, .pointer (some ⟨w.heap.size, 0, none⟩), undef, .slice none 0 0, .pointer (some ⟨Bx, 0, none⟩), .func (.func g) #[] lb, .agg #[.bool (f x).s, .slice (f x).p (f x).m (f x).k, .slice (f x).q (f x).d (f x).e], undef, undef, undef, undef, undef], defers := [] })
    (fun x a' s A B row hs hg hr => by
      obtain ⟨Bx, h1, h2, h3⟩ := hs
      refine ⟨Bx, h1, (hg.block Bx (Array.getElem?_eq_some_iff.1 h2).1 (fun e' => ?_)).trans h2, h3⟩
      obtain ⟨_, o, ho, hc⟩ := hr Bx e'.symm
      rw [h2] at ho; cases ho; cases hc) ?assign ?body ?done ?stop
  case assign =>
    rintro l pre x W K ⟨⟨v, hv, hrow, _⟩, hB⟩ hK
    have hlt := hv.lt
    gi_wp2
    exact hK _ _ ((KeepsOthers.alloc _ _).from _) (KeepsWalks.alloc _ _) ⟨⟨v, hv.alloc _, hrow.alloc _, trivial⟩, hB.alloc hB.size _⟩ ⟨W.heap.size, hlt, World.alloc_heap_new W _, rfl⟩
  case body =>
    rintro l pre x a' W hl ⟨r, hr⟩ ⟨⟨v, hv, hrow, _⟩, hB⟩ ⟨Bx, hBx, bX, rfl⟩ hlt
    have hc := hv.cell
    have hf := hv.frozen
    have x0 : W.cell? ⟨Bx, 0, none⟩ = some (.bool (f x).s) := by simp [World.cell?, bX]
    have x1 : W.cell? ⟨Bx, 1, none⟩ = some (.slice (f x).p (f x).m (f x).k) := by simp [World.cell?, bX]
    have x2 : W.cell? ⟨Bx, 2, none⟩ = some (.slice (f x).q (f x).d (f x).e) := by simp [World.cell?, bX]
    gi_wp2_with (first
      | (gi_at_builtin; refine wpListIn_append_own _ rfl _ _ 86 rfl w.heap.size 69 i0 _ 3 56 Tryz.underlying86 hi hz0 hz1 hz2 rfl (by decide) _ _ _ rfl (hrow.alloc _) ⟨W.heap.size, 0, none⟩ 1 1 (cells3 f x) rfl rfl (cell3_new _ _ _ _ _) (by simp [cells3, Value.oneCell']) (by unfold maxLen; omega) (by omega) (by have := hB.size; simp; omega) ?_
         intro v' w1 hown' hgrow _
         obtain ⟨g', cap', rfl⟩ := ownsRow_succ hown'
         obtain ⟨hv1, hv2, hr2, hk2, hb2⟩ := hv.appended (by decide) hrow hB.size (Nat.le_refl _) hown' hgrow
         have hc1 := hv1.cell
         have hf1 := hv1.frozen)
      | gi_in)
    exact ⟨hk2.from _, hk2.walks, ⟨⟨_, hv2, by simpa [List.flatMap_append] using hr2, trivial⟩, hB.trans hb2⟩⟩
  case done =>
    rintro D xs W hD hS ⟨⟨v, hv, hrow, _⟩, hB⟩ hK
    have hc := hv.cell
    have hf := hv.frozen
    gi_wp2
    refine ⟨by simp, .inl ⟨_, _, rfl, run_takeDeferred hK, ?_⟩⟩
    exact ⟨_, results_tmp rfl _ _ _, v, xs, rfl, hS, ownsRow_putObj hrow _ hK rfl, hB.trans (belowK_b (w := w) (Nat.le_refl _) W D _ _ (by simp at hD; omega) hK rfl rfl)⟩
  case stop =>
    intro D c pre W hD _ h
    exact h.elim

set_option maxHeartbeats 1000000 in
/-- slices.Collect. -/
theorem collect_in (F : Fence) (n : Nat) (h79 : F.fn 79) (h132 : F.fn 132) (hro : F.round = none) (hn : 3 ≤ n) (f : Nat → Fr) (g : Nat) (lb : Array Value) (hFg : F.fn g) (eg : ∀ args w, (callFunc g args).run Tryz.prog w = .ok (.enter g args) w)
    (S Sp : List Nat → Prop) (N : Nat) (hN : N ≤ 1000) (w : World)
    (hseq : SeqStopsK F (n - 1 - 1) Tryz.prog g lb (fun i => #[.agg #[.bool (f i).s, .slice (f i).p (f i).m (f i).k, .slice (f i).q (f i).d (f i).e]]) KeepsWalks S Sp N w) :
    CallsIn F n Tryz.prog 79 #[.func (.func g) #[] lb] w fun e W' => ∃ (v : Value) (xs : List Nat), e = .returned v ∧ S xs ∧ W'.ownsRow w.heap.size 69 3 v xs.length (xs.flatMap (cells3 f)) ∧ Below w.heap.size w W' := by
  have h1 : 1 ≤ n := by omega
  refine callsIn_of_wp Tryz.func79 rfl h79 ?_ hro
  simp only [Tryz.ntmps79, List.size_toArray, List.length_cons, List.length_nil, Nat.reduceAdd, Nat.reduceSub, Array.replicate_succ, Array.replicate_zero, List.push_toArray, List.append_toArray, List.nil_append, List.cons_append]
  gi_wp2_with (gi_at_call 132; refine (appendSeq_in F (n - 1) h132 hro (by omega) f g lb hFg eg S Sp N hN _ hseq).mono ?_; rintro e w' ⟨v, xs, rfl, hS, hrow, hb⟩)
  go_ret
  exact ⟨v, xs, rfl, hS, hrow, hb⟩
end Go.Proofs.YtclhglickeoocaaGreatDoor
end

section
/- Insertion sort on lists of numbers, as slices.insertionSortCmpFunc does it. -/
namespace Go.Isort

/-- Two neighbours exchanged. -/
def sw (xs : List Nat) (j : Nat) : List Nat := (xs.set j (xs.getD (j + 1) 0)).set (j + 1) (xs.getD j 0)

/-- The inner loop, from j downwards. -/
def inner (cf : Nat → Nat → Int) : Nat → List Nat → List Nat
  | 0, xs => xs
  | j + 1, xs => if cf (xs.getD (j + 1) 0) (xs.getD j 0) < 0 then inner cf j (sw xs j) else xs

/-- The outer loop: m rounds from i upwards. -/
def outer (cf : Nat → Nat → Int) : Nat → Nat → List Nat → List Nat
  | 0, _, xs => xs
  | m + 1, i, xs => outer cf m (i + 1) (inner cf i xs)

theorem sw_length (xs : List Nat) (j : Nat) : (sw xs j).length = xs.length := by simp [sw]

theorem sw_getD {xs : List Nat} {j k : Nat} (h : j + 1 < xs.length) : (sw xs j).getD k 0 = if k = j then xs.getD (j + 1) 0 else if k = j + 1 then xs.getD j 0 else xs.getD k 0 := by
  simp only [sw, List.getD_eq_getElem?_getD, List.getElem?_set, List.length_set]
  by_cases h1 : k = j + 1
  · subst h1; simp [h]
  · by_cases h2 : k = j
    · subst h2; simp [show ¬ k + 1 = k by omega, show k < xs.length by omega]
    · simp [Ne.symm h1, Ne.symm h2, h1, h2]

theorem sw_perm {xs : List Nat} {j : Nat} (h : j + 1 < xs.length) : (sw xs j).Perm xs := by
  have e : xs = xs.take j ++ xs.getD j 0 :: xs.getD (j + 1) 0 :: xs.drop (j + 2) := by
    apply List.ext_getElem?
    intro k
    simp only [List.getElem?_append, List.length_take, List.getElem?_take]
    by_cases h1 : k < j
    · rw [if_pos (by omega), if_pos h1]
    · rw [if_neg (by omega)]
      rcases Nat.lt_trichotomy k (j + 1) with h2 | h2 | h2
      · obtain rfl : k = j := by omega
        simp [show min k xs.length = k by omega, show k < xs.length by omega]
      · subst h2
        simp [show min j xs.length = j by omega, show j + 1 - j = 1 by omega, h]
      · obtain ⟨d, rfl⟩ : ∃ d, k = j + 2 + d := ⟨k - (j + 2), by omega⟩
        simp [show min j xs.length = j by omega, show j + 2 + d - j = d + 2 by omega]
  have e2 : sw xs j = xs.take j ++ xs.getD (j + 1) 0 :: xs.getD j 0 :: xs.drop (j + 2) := by
    apply List.ext_getElem?
    intro k
    simp only [sw, List.getElem?_set, List.length_set, List.getElem?_append, List.length_take, List.getElem?_take]
    by_cases h1 : k < j
    · rw [if_neg (by omega), if_neg (by omega), if_pos (by omega), if_pos h1]
    · rw [if_neg (by omega : ¬ k < min j xs.length)]
      rcases Nat.lt_trichotomy k (j + 1) with h2 | h2 | h2
      · obtain rfl : k = j := by omega
        simp [show min k xs.length = k by omega, show k < xs.length by omega]
      · subst h2
        simp [show min j xs.length = j by omega, show j + 1 - j = 1 by omega, h]
      · obtain ⟨d, rfl⟩ : ∃ d, k = j + 2 + d := ⟨k - (j + 2), by omega⟩
        simp [show min j xs.length = j by omega, show j + 2 + d - j = d + 2 by omega, show ¬ j + 1 = j + 2 + d by omega, show ¬ j = j + 2 + d by omega]
  rw [e2]
  conv => rhs; rw [e]
  exact (List.Perm.swap _ _ _).append_left _

theorem inner_perm {cf : Nat → Nat → Int} : ∀ {j : Nat} {xs : List Nat}, j < xs.length → (inner cf j xs).Perm xs
  | 0, xs, _ => List.Perm.refl _
  | j + 1, xs, h => by
    unfold inner
    split
    · exact (inner_perm (by rw [sw_length]; omega)).trans (sw_perm h)
    · exact List.Perm.refl _

theorem outer_perm {cf : Nat → Nat → Int} : ∀ {m i : Nat} {xs : List Nat}, i + m ≤ xs.length → (outer cf m i xs).Perm xs
  | 0, i, xs, _ => List.Perm.refl _
  | m + 1, i, xs, h => by
    unfold outer
    have hp := inner_perm (cf := cf) (j := i) (xs := xs) (by omega)
    exact (outer_perm (by rw [hp.length_eq]; omega)).trans hp

/-- All neighbours below i are in order. -/
def Upto (xs : List Nat) (i : Nat) : Prop := ∀ k, k + 1 < i → xs.getD k 0 ≤ xs.getD (k + 1) 0

theorem inner_upto {cf : Nat → Nat → Int} (hcf : ∀ a b, cf a b < 0 ↔ a < b) {i : Nat} : ∀ {j : Nat} {xs : List Nat}, j ≤ i → i < xs.length →
    (∀ k, k + 1 ≤ i → k + 1 ≠ j → xs.getD k 0 ≤ xs.getD (k + 1) 0) → (1 ≤ j → j < i → xs.getD (j - 1) 0 ≤ xs.getD (j + 1) 0) → Upto (inner cf j xs) (i + 1)
  | 0, xs, _, _, h1, _ => fun k hk => h1 k (by omega) (by omega)
  | j + 1, xs, hj, hi, h1, h2 => by
    unfold inner
    split
    · rename_i hlt
      rw [hcf] at hlt
      refine inner_upto hcf (by omega) (by rw [sw_length]; exact hi) ?_ ?_
      · intro k hk hkj
        rw [sw_getD (by omega), sw_getD (by omega)]
        by_cases e1 : k = j
        · subst e1; rw [if_pos rfl, if_neg (by omega), if_pos rfl]; omega
        · rw [if_neg e1]
          by_cases e2 : k = j + 1
          · subst e2
            rw [if_pos rfl, if_neg (by omega), if_neg (by omega)]
            have := h2 (by omega) (by omega)
            simpa using this
          · rw [if_neg e2, if_neg (by omega), if_neg (by omega)]
            exact h1 k hk (by omega)
      · intro hj1 hji
        rw [sw_getD (by omega), sw_getD (by omega)]
        rw [if_neg (by omega), if_neg (by omega), if_neg (by omega), if_pos rfl]
        have := h1 (j - 1) (by omega) (by omega)
        rw [show j - 1 + 1 = j by omega] at this
        exact this
    · rename_i hge
      rw [hcf] at hge
      intro k hk
      by_cases e : k = j
      · subst e; omega
      · exact h1 k (by omega) (by omega)

theorem outer_upto {cf : Nat → Nat → Int} (hcf : ∀ a b, cf a b < 0 ↔ a < b) : ∀ {m i : Nat} {xs : List Nat}, i + m ≤ xs.length → Upto xs i → Upto (outer cf m i xs) (i + m)
  | 0, i, xs, _, h => h
  | m + 1, i, xs, hl, h => by
    unfold outer
    have hp := inner_perm (cf := cf) (j := i) (xs := xs) (by omega)
    have := outer_upto (m := m) (i := i + 1) hcf (by rw [hp.length_eq]; omega) (inner_upto hcf (Nat.le_refl i) (by omega) (fun k hk hne => h k (by omega)) (fun _ h => absurd h (Nat.lt_irrefl _)))
    rw [show i + 1 + m = i + (m + 1) by omega] at this
    exact this

/-- What is in order, and holds just the numbers below N, each once, is their list. -/
theorem upto_range {N : Nat} {ys : List Nat} (hu : Upto ys ys.length) (hn : ys.Nodup) (hm : ∀ i, i ∈ ys ↔ i < N) : ys = List.range N := by
  have hl : ys.length = N := by
    have h1 := List.Nodup.length_le_of_subset (l₂ := List.range N) hn (fun i hi => List.mem_range.2 ((hm i).1 hi))
    have h2 := List.Nodup.length_le_of_subset (l₂ := ys) (List.nodup_range (n := N)) (fun i hi => (hm i).2 (List.mem_range.1 hi))
    simp at h1 h2; omega
  have hmono : ∀ d k, k + d < ys.length → ys.getD k 0 + d ≤ ys.getD (k + d) 0 := by
    intro d
    induction d with
    | zero => intro k _; simp
    | succ d ih =>
      intro k hk
      have h1 := ih k (by omega)
      have h2 := hu (k + d) (by omega)
      have h3 : ys.getD (k + d) 0 ≠ ys.getD (k + d + 1) 0 := by
        intro e
        have h4 : k + d < ys.length := by omega
        have h5 : k + d + 1 < ys.length := by omega
        simp only [List.getD_eq_getElem?_getD, List.getElem?_eq_getElem h4, List.getElem?_eq_getElem h5, Option.getD_some] at e
        have := (List.getElem_inj hn).1 e
        omega
      rw [show k + (d + 1) = k + d + 1 by omega]
      omega
  apply List.ext_getElem?
  intro k
  by_cases hk : k < N
  · rw [List.getElem?_range hk]
    have hk' : k < ys.length := by omega
    have h1 := hmono k 0 (by omega)
    have h2 := hmono (N - 1 - k) k (by omega)
    rw [show k + (N - 1 - k) = N - 1 by omega] at h2
    have h3 : ys.getD (N - 1) 0 < N := by
      have h4 : N - 1 < ys.length := by omega
      rw [List.getD_eq_getElem?_getD, List.getElem?_eq_getElem h4, Option.getD_some]
      exact (hm _).1 (List.getElem_mem h4)
    rw [Nat.zero_add] at h1
    rw [List.getElem?_eq_getElem hk']
    have : ys[k] = ys.getD k 0 := by rw [List.getD_eq_getElem?_getD, List.getElem?_eq_getElem hk', Option.getD_some]
    rw [this]
    congr 1
    omega
  · rw [List.getElem?_eq_none (by omega), List.getElem?_eq_none (by simp; omega)]

theorem outer_sorts {cf : Nat → Nat → Int} (hcf : ∀ a b, cf a b < 0 ↔ a < b) {N : Nat} {xs : List Nat} (hn : xs.Nodup) (hm : ∀ i, i ∈ xs ↔ i < N) (hl : 1 ≤ xs.length) : outer cf (xs.length - 1) 1 xs = List.range N := by
  have hp := outer_perm (cf := cf) (m := xs.length - 1) (i := 1) (xs := xs) (by omega)
  refine upto_range ?_ (hp.nodup_iff.2 hn) (fun i => (hp.mem_iff).trans (hm i))
  have := outer_upto (m := xs.length - 1) (i := 1) hcf (by omega) (xs := xs) (fun k hk => by omega)
  rw [show 1 + (xs.length - 1) = xs.length by omega] at this
  rw [hp.length_eq]
  exact this
end Go.Isort
end

