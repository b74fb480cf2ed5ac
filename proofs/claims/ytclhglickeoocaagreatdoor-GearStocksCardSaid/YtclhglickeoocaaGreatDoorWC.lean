import Derived.Test.YtclhglickeoocaaGreatDoorWB
import Derived.Maps.Own
import Derived.Maps.OwnOps
import Derived.Maps.OwnSet
import Derived.Maps.Views
import Derived.Deep.AppendLies
section
namespace Go.Proofs.YtclhglickeoocaaGreatDoor
open Go.RowKit Go.Maps Go

theorem law3 : Keyed Tryz.prog 3 := int_keyed Tryz.underlying3
theorem zero3 (w : World) : (zeroValue 3).run Tryz.prog w = .ok (.int .i64 0) w := by kernel_rfl

/-- Block b is a map of at most n numbers that gives σ t at t. -/
def MapI (w : World) (b n : Nat) (σ : Int → Int) : Prop :=
  ∃ D : DataW Unit, w.ownsMap Tryz.prog 3 (plainElem Tryz.prog 3) b n D ∧ ∀ t, (Lit.int .i64 t).wf = true → D.atKey (.int .i64 t) (.lit (.int .i64 0)) = .lit (.int .i64 (σ t))

theorem ownsMap_isMap {w : World} {b n : Nat} {D : DataW Unit} (h : w.ownsMap Tryz.prog 3 (plainElem Tryz.prog 3) b n D) : IsMap D := by
  obtain ⟨es, clock, _, _, _, rfl⟩ := h
  exact ⟨_, rfl⟩

theorem ownsMap_below {w w' : World} {b n B : Nat} {D : DataW Unit} (h : w.ownsMap Tryz.prog 3 (plainElem Tryz.prog 3) b n D) (hb : Below B w w') (hB : b < B) : w'.ownsMap Tryz.prog 3 (plainElem Tryz.prog 3) b n D := by
  obtain ⟨es, clock, h1, h2⟩ := h
  exact ⟨es, clock, (hb.block b hB).trans h1, h2⟩

/-- One taken from σ. -/
def dec (σ : Int → Int) (x : Int) : Int → Int := fun t => if t = x then σ t - 1 else σ t

def takes (σ : Int → Int) : List (Int × Int) → Bool
  | [] => true
  | p :: r => if σ p.1 = 0 then false else if dec σ p.1 p.2 = 0 then false else takes (dec (dec σ p.1) p.2) r

theorem takes_iff : ∀ (l : List (Int × Int)) (σ : Int → Int), (∀ t, 0 ≤ σ t) → (takes σ l = true ↔ ∀ t, (cnt t l : Int) ≤ σ t)
  | [], σ, h => by simpa [takes, cnt] using h
  | (a, b) :: r, σ, h => by
    unfold takes
    by_cases h1 : σ a = 0
    · rw [if_pos h1]
      refine ⟨fun k => by simp at k, fun k => ?_⟩
      have := k a
      simp only [cnt, if_pos] at this
      omega
    rw [if_neg h1]
    by_cases h2 : dec σ a b = 0
    · rw [if_pos h2]
      refine ⟨fun k => by simp at k, fun k => ?_⟩
      have := k b
      unfold dec at h2
      by_cases hab : b = a
      · subst hab
        simp only [cnt, if_pos] at this h2
        omega
      · simp only [cnt, if_neg hab, if_pos] at this h2
        omega
    rw [if_neg h2]
    have hp : ∀ t, 0 ≤ dec (dec σ a) b t := by
      intro t
      have g := h t
      have ga := h a
      unfold dec at h2 ⊢
      by_cases tb : t = b
      · rw [if_pos tb]
        by_cases ta : t = a
        · rw [if_pos ta]
          rw [if_pos (tb.symm.trans ta), ← tb] at h2
          have h1' : ¬ σ t = 0 := by rw [ta]; exact h1
          omega
        · rw [if_neg ta]
          rw [if_neg (fun e => ta (tb.trans e)), ← tb] at h2
          omega
      · rw [if_neg tb]
        by_cases ta : t = a
        · rw [if_pos ta, ta]; omega
        · rw [if_neg ta]; exact g
    rw [takes_iff r _ hp]
    refine forall_congr' fun t => ?_
    simp only [cnt]
    unfold dec
    by_cases ta : t = a
    · subst ta
      by_cases tb : t = b
      · subst tb; simp; omega
      · rw [if_neg tb, if_pos rfl, if_pos rfl, if_neg (fun e => tb e.symm)]; omega
    · by_cases tb : t = b
      · subst tb; rw [if_pos rfl, if_neg ta, if_neg (fun e => ta e.symm), if_pos rfl]; omega
      · rw [if_neg tb, if_neg ta, if_neg (fun e => ta e.symm), if_neg (fun e => tb e.symm)]; omega

theorem cnt_pos {t : Int} : ∀ {l : List (Int × Int)}, 0 < cnt t l → ∃ p ∈ l, p.1 = t ∨ p.2 = t
  | [], h => by simp [cnt] at h
  | p :: r, h => by
    by_cases h1 : p.1 = t
    · exact ⟨p, by simp, .inl h1⟩
    by_cases h2 : p.2 = t
    · exact ⟨p, by simp, .inr h2⟩
    have e : cnt t (p :: r) = cnt t r := by simp [cnt, h1, h2]
    rw [e] at h
    obtain ⟨q, hq, hr⟩ := cnt_pos h
    exact ⟨q, by simp [hq], hr⟩

theorem hasOf_nonneg {l : List (Int × Int)} (h : ∀ p ∈ l, wheelOk p = true) (t : Int) : 0 ≤ hasOf t l ∧ hasOf t l ≤ 999999999 := by
  induction l with
  | nil => simp [hasOf]
  | cons p r ih =>
    unfold hasOf
    obtain ⟨a, b⟩ := p
    have := h (a, b) (by simp)
    rw [wheelOk_iff] at this
    by_cases e : a = t
    · rw [if_pos e]; simp; omega
    · rw [if_neg e]; exact ih fun q hq => h q (by simp [hq])

theorem takes_builds {s t : List (Int × Int)} (h : ∀ p ∈ s, wheelOk p = true) : takes (fun x => hasOf x s) t = buildsOf s t := by
  rw [Bool.eq_iff_iff, takes_iff _ _ (fun x => (hasOf_nonneg h x).1)]
  unfold buildsOf
  rw [List.all_eq_true]
  constructor
  · intro k p _
    simp only [Bool.and_eq_true, decide_eq_true_eq]
    exact ⟨k _, k _⟩
  · intro k x
    by_cases hc : 0 < cnt x t
    · obtain ⟨p, hp, e⟩ := cnt_pos hc
      have := k p hp
      simp only [Bool.and_eq_true, decide_eq_true_eq] at this
      rcases e with rfl | rfl
      · exact this.1
      · exact this.2
    · have := (hasOf_nonneg h x).1
      omega

theorem stock_good : ∀ {l : List (Int × Int)} {pv : Option Int}, stockFrom pv l = 0 → (∀ p ∈ l, wheelOk p = true) ∧ l.Pairwise (fun p q => p.1 < q.1) ∧ ∀ q, pv = some q → ∀ p ∈ l, q < p.1
  | [], _, _ => ⟨fun _ h => by simp at h, .nil, fun _ _ _ h => by simp at h⟩
  | p :: r, pv, h => by
    unfold stockFrom at h
    by_cases h1 : wheelOk p = false
    · rw [if_pos h1] at h; cases h
    rw [if_neg h1] at h
    obtain ⟨h2, h⟩ : (∀ q, pv = some q → ¬ p.1 ≤ q) ∧ stockFrom (some p.1) r = 0 := by
      cases pv with
      | none => exact ⟨fun _ e => by simp at e, by simpa using h⟩
      | some q =>
        by_cases h2 : p.1 ≤ q
        · simp [h2] at h
        · exact ⟨fun _ e => by injection e with e; subst e; exact h2, by simpa [h2] using h⟩
    obtain ⟨k1, k2, k3⟩ := stock_good h
    rw [Bool.not_eq_false] at h1
    have k4 := k3 p.1 rfl
    refine ⟨fun q hq => ?_, .cons k4 k2, fun q hq x hx => ?_⟩
    · rcases List.mem_cons.1 hq with rfl | hq
      · exact h1
      · exact k1 q hq
    · have h3 := h2 q hq
      rcases List.mem_cons.1 hx with rfl | hx
      · omega
      · have := k4 x hx; omega

theorem hasOf_other {t : Int} {q : Int × Int} (h : q.1 ≠ t) : ∀ l : List (Int × Int), hasOf t (l ++ [q]) = hasOf t l
  | [] => by simp [hasOf, h]
  | p :: r => by
    rw [List.cons_append]
    unfold hasOf
    rw [hasOf_other h r]

theorem hasOf_last {q : Int × Int} : ∀ {l : List (Int × Int)}, (∀ p ∈ l, p.1 ≠ q.1) → hasOf q.1 (l ++ [q]) = q.2
  | [], _ => by simp [hasOf]
  | p :: r, h => by
    rw [List.cons_append]
    unfold hasOf
    rw [if_neg (h p (by simp))]
    exact hasOf_last fun x hx => h x (by simp [hx])

/-- What the shelf gives behind one wheel more. -/
theorem hasOf_step {s : List (Int × Int)} (h : s.Pairwise (fun p q => p.1 < q.1)) {k : Nat} (h0 : k < s.length) (t : Int) :
    hasOf t (s.take (k + 1)) = if t = (s.getD k (0, 0)).1 then (s.getD k (0, 0)).2 else hasOf t (s.take k) := by
  rw [pairs_take_succ h0]
  by_cases e : t = (s.getD k (0, 0)).1
  · rw [if_pos e, e]
    refine hasOf_last fun p hp => ?_
    obtain ⟨i, hi, rfl⟩ := List.getElem_of_mem hp
    have hik : i < k := by simp at hi; omega
    have := List.pairwise_iff_getElem.1 h i k (by omega) h0 hik
    rw [List.getD_eq_getElem?_getD, List.getElem?_eq_getElem h0, List.getElem_take]
    show s[i].1 ≠ s[k].1
    omega
  · rw [if_neg e]
    exact hasOf_other (fun h => e h.symm) _
end Go.Proofs.YtclhglickeoocaaGreatDoor
end

section
namespace Go.Proofs.YtclhglickeoocaaGreatDoor
open Go.RowKit Go.Maps Go

theorem key_ne {a b : Int} (h : a ≠ b) : Lit.int .i64 a ≠ Lit.int .i64 b := fun e => h (by injection e)

theorem mapI_dec {w' : World} {b n : Nat} {σ : Int → Int} {x v : Int} {D : DataW Unit} (hD : IsMap D) (hv : ∀ t, (Lit.int .i64 t).wf = true → D.atKey (.int .i64 t) (.lit (.int .i64 0)) = .lit (.int .i64 (σ t)))
    (hown : w'.ownsMap Tryz.prog 3 (plainElem Tryz.prog 3) b n (D.put (.int .i64 x) (.lit (.int .i64 v)))) {τ : Int → Int} (hτ : ∀ t, τ t = if t = x then v else σ t) : MapI w' b n τ := by
  refine ⟨_, hown, fun t ht => ?_⟩
  rw [hτ]
  by_cases e : t = x
  · subst e
    rw [if_pos rfl]
    exact atKey_put_same hD (by simp [WideAt.IsKeyLit]) _ _
  · rw [if_neg e, atKey_put_other (key_ne e)]
    exact hv t ht

theorem mapI_del {w' : World} {b n : Nat} {σ : Int → Int} {x : Int} {D : DataW Unit} (hv : ∀ t, (Lit.int .i64 t).wf = true → D.atKey (.int .i64 t) (.lit (.int .i64 0)) = .lit (.int .i64 (σ t)))
    (hown : w'.ownsMap Tryz.prog 3 (plainElem Tryz.prog 3) b n (D.del (.int .i64 x))) {τ : Int → Int} (hτ : ∀ t, τ t = if t = x then 0 else σ t) : MapI w' b n τ := by
  refine ⟨_, hown, fun t ht => ?_⟩
  rw [hτ]
  by_cases e : t = x
  · subst e
    rw [if_pos rfl]
    exact atKey_del_same _
  · rw [if_neg e, atKey_del_other (key_ne e)]
    exact hv t ht

theorem MapI.mono {w : World} {b n m : Nat} {σ : Int → Int} (h : MapI w b n σ) (hn : n ≤ m) : MapI w b m σ := by
  obtain ⟨D, h1, h2⟩ := h
  exact ⟨D, h1.mono hn, h2⟩

theorem MapI.below {w w' : World} {b n B : Nat} {σ : Int → Int} (h : MapI w b n σ) (hb : Below B w w') (hB : b < B) : MapI w' b n σ := by
  obtain ⟨D, h1, h2⟩ := h
  exact ⟨D, ownsMap_below h1 hb hB, h2⟩

theorem MapI.lt {w : World} {b n : Nat} {σ : Int → Int} (h : MapI w b n σ) : b < w.heap.size := by
  obtain ⟨D, h1, h2⟩ := h
  exact h1.lt

set_option maxRecDepth 100000 in
set_option maxHeartbeats 800000 in
/-- takeWheel where there is none. -/
theorem cTakeNone (b n : Nat) (σ : Int → Int) (x : Int) (w : World) (hM : MapI w b n σ) (hx : (Lit.int .i64 x).wf = true) (hp : σ x = 0) :
    Calls Tryz.prog 71 #[.map (some b), .int .i64 x] w fun e w' => e = .returned (.bool false) ∧ w' = w := by
  obtain ⟨D, hown, hv⟩ := hM
  have hkey := keyOf_int_mk Tryz.underlying3 hx
  have hat0 : D.atKey (.int .i64 x) (.lit (.int .i64 0)) = .lit (.int .i64 0) := by rw [hv x hx, hp]
  have HV := Lib.hid hv
  obtain ⟨c, hrun, hat, _⟩ := hown.lookup_int law3 Tryz.underlying63 Tryz.underlying3 (zero3 _) hkey
  rw [hat0] at hat
  obtain rfl : c = 0 := by injection hat with e; injection e with _ e; exact e.symm
  clear hv hp hat0 hat
  go_enter Tryz.func71, Tryz.ntmps71
  go_wp2
  go_ret
  exact ⟨rfl, rfl⟩

set_option maxRecDepth 100000 in
set_option maxHeartbeats 800000 in
/-- takeWheel where there is one. -/
theorem cTakeSome (b n : Nat) (σ : Int → Int) (x : Int) (w : World) (hM : MapI w b n σ) (hn : n ≤ 1000) (hx : (Lit.int .i64 x).wf = true) (hp : ¬ σ x = 0) (h0 : 0 ≤ σ x) (h1 : σ x ≤ 999999999) :
    Calls Tryz.prog 71 #[.map (some b), .int .i64 x] w fun e w' => e = .returned (.bool true) ∧ w.grownBy w' (some b) ∧ MapI w' b (n + 1) (dec σ x) := by
  obtain ⟨D, hown, hv⟩ := hM
  have hD := ownsMap_isMap hown
  have hlt := hown.lt
  have hkey := keyOf_int_mk Tryz.underlying3 hx
  obtain ⟨s, hs⟩ : ∃ s, s = σ x := ⟨_, rfl⟩
  have hat0 : D.atKey (.int .i64 x) (.lit (.int .i64 0)) = .lit (.int .i64 s) := by rw [hs]; exact hv x hx
  rw [← hs] at h0 h1 hp
  have HV := Lib.hid hv
  obtain ⟨c, hrun, hat, _⟩ := hown.lookup_int law3 Tryz.underlying63 Tryz.underlying3 (zero3 _) hkey
  rw [hat0] at hat
  obtain rfl : c = s := by injection hat with e; injection e with _ e; exact e.symm
  clear hat hat0
  by_cases ho : c = 1
  · subst ho
    have HS := Lib.hid hs
    clear hv hs hp h0 h1
    go_enter Tryz.func71, Tryz.ntmps71
    go_wp2_with (first
      | (at_delete; refine wpList_delete_own _ rfl _ _ 63 3 rfl 3 law3 Tryz.underlying63 _ b n D rfl hown _ _ rfl hkey ?_; intro w1 hown1 hturn1))
    go_ret
    exact ⟨rfl, hturn1.grown, (mapI_del HV.out hown1 (fun t => by unfold dec; by_cases e : t = x <;> simp [e, ← HS.out])).mono (Nat.le_succ _)⟩
  · have HS := Lib.hid hs
    have hne0 : (c == 0) = false := by simpa using hp
    have hne1 : (c == 1) = false := by simpa using ho
    clear hv hs hp
    go_enter Tryz.func71, Tryz.ntmps71
    go_wp2_with (first
      | (at_mapUpdate; refine wpList_mapUpdate_own _ rfl _ _ _ 63 rfl 3 3 law3 Tryz.underlying63 _ b n D rfl hown (by unfold maxLen; omega) _ _ _ rfl rfl hkey _ [] (plainElem_int Tryz.underlying3 (WalkArith.wf_i64 (by omega))) ?_; intro w1 hown1 hgrow1))
    go_ret
    exact ⟨rfl, hgrow1, mapI_dec hD HV.out hown1 (fun t => by unfold dec; by_cases e : t = x <;> simp [e, ← HS.out])⟩
end Go.Proofs.YtclhglickeoocaaGreatDoor
end

section
namespace Go.Proofs.YtclhglickeoocaaGreatDoor
open Go.RowKit Go.Maps Go

theorem wheel_at {xs : List (Int × Int)} (hw : ∀ p ∈ xs, wheelOk p = true) {k : Nat} (h0 : k < xs.length) : wheelOk (xs.getD k (0, 0)) = true := by
  rw [List.getD_eq_getElem?_getD, List.getElem?_eq_getElem h0]
  exact hw _ (List.getElem_mem h0)

set_option maxRecDepth 100000 in
set_option maxHeartbeats 1600000 in
/-- shelfOf. -/
theorem cShelfOf (p : Option Addr) (ca : Nat) (xs : List (Int × Int)) (w : World) (hx : PairsV w p xs) (hl : xs.length ≤ 32) (hw : ∀ p ∈ xs, wheelOk p = true) (hp : xs.Pairwise (fun p q => p.1 < q.1)) :
    Calls Tryz.prog 28 #[.slice p xs.length ca] w fun e w' => e = .returned (.map (some w.heap.size)) ∧ Below w.heap.size w w' ∧ MapI w' w.heap.size 32 (fun t => hasOf t xs) := by
  have hmm := @run_makeMap Tryz.prog
  go_enter Tryz.func28, Tryz.ntmps28
  go_wp2
  go_loopw [9] (fun ii wr => ∃ (k : Nat), k ≤ xs.length ∧ ii = .int .i64 k ∧ Hid (MapI wr w.heap.size k (fun t => hasOf t (xs.take k))) ∧ Below w.heap.size w wr) (fun ii _ => xs.length - (intOf ii).toNat)
  case atStart => exact ⟨0, Nat.zero_le _, rfl, ⟨.map [], World.ownsMap_made _ _ _ _, fun t _ => rfl⟩, (Below.refl _ _).alloc (Nat.le_refl _) _⟩
  case round =>
    obtain ⟨k, hk, rfl, hrel, hb⟩ := hrel
    by_cases h0 : k < xs.length
    · obtain ⟨g, o, rfl, hg, hc1, hc2⟩ := (hx.below hb).at (i := k) h0
      have hstep := hasOf_step hp h0
      have hwk := wheel_at hw h0
      generalize hq : xs.getD k (0, 0) = q at *
      obtain ⟨a, b⟩ := q
      rw [wheelOk_iff] at hwk
      obtain ⟨h1, h2, h3, h4⟩ := hwk
      obtain ⟨D, hown, hv⟩ := hrel.out
      have hD := ownsMap_isMap hown
      have hlt := hown.lt
      have HO := Lib.hid (fun W (h : Below (w.heap.size + 1) wr W) => ownsMap_below hown h (Nat.lt_succ_self _))
      have HV := Lib.hid hv
      have HS := Lib.hid hstep
      have hkey : keyOf Tryz.prog 3 (.int .i64 a) = some (.int .i64 a) := keyOf_int_mk Tryz.underlying3 (WalkArith.wf_i64 (by omega))
      have hval := plainElem_int (H := Unit) (P := Tryz.prog) (e := 3) (q := .i64) (a := b) Tryz.underlying3 (WalkArith.wf_i64 (by omega))
      have hsz := hb.size
      clear hq hx hstep hv hown hrel hp hw
      go_wp2_with (first
        | (at_mapUpdate; refine wpList_mapUpdate_own _ rfl _ _ _ 63 rfl 3 3 law3 Tryz.underlying63 _ w.heap.size k D rfl (HO.out _ (by repeat' (first | exact Below.refl _ _ | exact hlt | refine Below.drew ?_ | refine Below.alloc ?_ ?_ _ | refine Below.setCell ?_ ?_ _ | refine below_drewN ?_ _))) (by unfold maxLen; omega) _ _ _ rfl rfl hkey _ [] hval ?_; intro w1 hown1 hgrow1))
      go_roundw
      case rel => exact ⟨k + 1, by omega, by go_num, mapI_dec hD HV.out hown1 HS.out, Below.grown (a := w) (w := _) (by refine hb.trans ?_; repeat' (first | exact Below.refl _ _ | exact hsz | refine Below.drew ?_ | refine Below.alloc ?_ ?_ _ | refine Below.setCell ?_ ?_ _ | refine below_drewN ?_ _)) hgrow1 (by simp; omega) (fun j hj => by cases hj; exact Nat.le_refl _)⟩
      case measure => simp [intOf]; omega
    · obtain rfl : k = xs.length := by omega
      have hz := hrel.out
      rw [List.take_length] at hz
      have HZ := Lib.hid hz
      clear hz hx hrel
      go_wp2
      go_ret
      exact ⟨rfl, hb, HZ.out.mono hl⟩
end Go.Proofs.YtclhglickeoocaaGreatDoor
end

section
namespace Go.Proofs.YtclhglickeoocaaGreatDoor
open Go.RowKit Go.Maps Go

def Tame (σ : Int → Int) : Prop := ∀ t, 0 ≤ σ t ∧ σ t ≤ 999999999

theorem tame_dec {σ : Int → Int} (h : Tame σ) {x : Int} (hx : ¬ σ x = 0) : Tame (dec σ x) := by
  intro t
  have := h t
  unfold dec
  by_cases e : t = x
  · subst e; rw [if_pos rfl]; omega
  · rw [if_neg e]; exact this

theorem grown_cell {w w' : World} {b : Nat} (h : w.grownBy w' (some b)) {a : Addr} {v : Value} (hc : w.cell? a = some v) (hlt : a.block < w.heap.size) (hne : a.block ≠ b) : w'.cell? a = some v :=
  (h.cell_far a hlt (fun e => hne (by injection e))).trans hc

set_option maxRecDepth 100000 in
set_option maxHeartbeats 1600000 in
/-- take. -/
theorem cTake (p : Option Addr) (ca : Nat) (ys : List (Int × Int)) (b n : Nat) (σ : Int → Int) (B : Nat) (w : World) (hy : ∀ W, Below B w W → PairsV W p ys) (hl : ys.length ≤ 4) (hok : ∀ q ∈ ys, pairOk q = true)
    (hM : MapI w b n σ) (hB : B ≤ b) (hn : n ≤ 100) (hT : Tame σ) :
    Calls Tryz.prog 29 #[.map (some b), .slice p ys.length ca] w fun e w' => e = .returned (.bool (takes σ ys)) ∧ Below B w w' := by
  generalize hr : takes σ ys = res
  have hr2 : ∃ σ' n', MapI w b n' σ' ∧ n' ≤ n + 2 * 0 ∧ Tame σ' ∧ res = takes σ' (ys.drop 0) := ⟨σ, n, hM, by omega, hT, hr.symm⟩
  have HR := Lib.hid hr2
  have hBs : B ≤ w.heap.size := Nat.le_of_lt (Nat.lt_of_le_of_lt hB hM.lt)
  clear hr hr2 hM hT
  go_enter Tryz.func29, Tryz.ntmps29
  go_wp2
  go_loopw [9] (fun ii wr => ∃ (k : Nat), k ≤ ys.length ∧ ii = .int .i64 k ∧ Hid (∃ σ' n', MapI wr b n' σ' ∧ n' ≤ n + 2 * k ∧ Tame σ' ∧ res = takes σ' (ys.drop k)) ∧ Below B w wr) (fun ii _ => ys.length - (intOf ii).toNat)
  case atStart => exact ⟨0, Nat.zero_le _, rfl, HR, Below.refl _ _⟩
  case round =>
    obtain ⟨k, hk, rfl, hrel, hb⟩ := hrel
    by_cases h0 : k < ys.length
    · obtain ⟨g, o, rfl, hg, hc1, hc2⟩ := (hy _ hb).at (i := k) h0
      have hd := pairs_drop h0
      have hpk : pairOk (ys.getD k (0, 0)) = true := by
        rw [List.getD_eq_getElem?_getD, List.getElem?_eq_getElem h0]
        exact hok _ (List.getElem_mem h0)
      generalize hq : ys.getD k (0, 0) = q at *
      obtain ⟨a, c⟩ := q
      rw [pairOk_iff] at hpk
      obtain ⟨h1, h2, h3, h4⟩ := hpk
      obtain ⟨σ', n', hM, hn', hT, hres⟩ := hrel.out
      rw [hd] at hres
      have hs : res = if σ' a = 0 then false else if dec σ' a c = 0 then false else takes (dec (dec σ' a) c) (ys.drop (k + 1)) := hres
      have hlt := hM.lt
      have hxa : (Lit.int .i64 a).wf = true := WalkArith.wf_i64 (by omega)
      have hxc : (Lit.int .i64 c).wf = true := WalkArith.wf_i64 (by omega)
      have hsz := hb.size
      have hBr : B ≤ wr.heap.size := Nat.le_trans hBs hsz
      have below1 : ∀ w1 : World, Below B wr w1 → Below B w w1 := fun w1 h => hb.trans h
      by_cases hz1 : σ' a = 0
      · have hz : res = false := by rw [hs, if_pos hz1]
        have HZ := Lib.hid hz
        have C1 := Lib.hid (fun W (h : Below (b + 1) wr W) => cTakeNone b n' σ' a W (hM.below h (Nat.lt_succ_self _)) hxa hz1)
        clear hz hs hres hrel hM hT hd hq hy hok HR
        go_wp2_with (go_at_call 71; refine (C1.out _ (by repeat' (first | exact Below.refl _ _ | exact hlt | refine Below.drew ?_ | refine Below.alloc ?_ ?_ _ | refine Below.setCell ?_ ?_ _ | refine below_drewN ?_ _))).mono ?_; rintro e w1 ⟨rfl, rfl⟩)
        go_ret
        exact ⟨bret HZ.out.symm, by refine below1 _ ?_; repeat' (first | exact Below.refl _ _ | exact hsz | exact hlt | exact hBr | refine Below.drew ?_ | refine Below.alloc ?_ ?_ _ | refine Below.setCell ?_ ?_ _ | refine below_drewN ?_ _)⟩
      · have hz' : res = if dec σ' a c = 0 then false else takes (dec (dec σ' a) c) (ys.drop (k + 1)) := by rw [hs, if_neg hz1]
        have hT2 := tame_dec hT hz1
        have C1 := Lib.hid (fun W (h : Below (b + 1) wr W) => cTakeSome b n' σ' a W (hM.below h (Nat.lt_succ_self _)) (by omega) hxa hz1 (hT a).1 (hT a).2)
        by_cases hz2 : dec σ' a c = 0
        · have hz : res = false := by rw [hz', if_pos hz2]
          have HZ := Lib.hid hz
          have C2 := Lib.hid (fun W (h : MapI W b (n' + 1) (dec σ' a)) => cTakeNone b (n' + 1) (dec σ' a) c W h hxc hz2)
          clear hz hz' hs hres hrel hM hT hT2 hd hq hy hok HR
          go_wp2_with (first
            | (go_at_call 71; (with_reducible refine (C1.out _ ?hb).mono ?_); (case hb => repeat' (first | exact Below.refl _ _ | exact hlt | refine Below.drew ?_ | refine Below.alloc ?_ ?_ _ | refine Below.setCell ?_ ?_ _ | refine below_drewN ?_ _)); rintro e w1 ⟨rfl, hg1, hm1⟩; have hcell : w1.cell? ⟨wr.heap.size, 1, none⟩ = some (.int .i64 c) := grown_cell hg1 (by simp) (by simp) (by show wr.heap.size ≠ b; omega))
            | (go_at_call 71; (with_reducible refine (C2.out _ ?hb).mono ?_); (case hb => first | exact hm1 | exact hm1.below (B := b + 1) (Below.refl _ _).drew (Nat.lt_succ_self _)); rintro e w2 ⟨rfl, rfl⟩))
          go_ret
          exact ⟨bret HZ.out.symm, below1 _ (Below.grown (w := _) (by repeat' (first | exact Below.refl _ _ | exact hsz | exact hlt | exact hBr | refine Below.drew ?_ | refine Below.alloc ?_ ?_ _ | refine Below.setCell ?_ ?_ _ | refine below_drewN ?_ _)) hg1 (by simp; omega) (fun j hj => by cases hj; exact hB))⟩
        · have hz : res = takes (dec (dec σ' a) c) (ys.drop (k + 1)) := by rw [hz', if_neg hz2]
          have HZ := Lib.hid hz
          have hT3 := Lib.hid (tame_dec hT2 hz2)
          have C2 := Lib.hid (fun W (h : MapI W b (n' + 1) (dec σ' a)) => cTakeSome b (n' + 1) (dec σ' a) c W h (by omega) hxc hz2 (hT2 c).1 (hT2 c).2)
          clear hz hz' hs hres hrel hM hT hT2 hd hq hy hok HR
          go_wp2_with (first
            | (go_at_call 71; (with_reducible refine (C1.out _ ?hb).mono ?_); (case hb => repeat' (first | exact Below.refl _ _ | exact hlt | refine Below.drew ?_ | refine Below.alloc ?_ ?_ _ | refine Below.setCell ?_ ?_ _ | refine below_drewN ?_ _)); rintro e w1 ⟨rfl, hg1, hm1⟩; have hcell : w1.cell? ⟨wr.heap.size, 1, none⟩ = some (.int .i64 c) := grown_cell hg1 (by simp) (by simp) (by show wr.heap.size ≠ b; omega))
            | (go_at_call 71; (with_reducible refine (C2.out _ ?hb).mono ?_); (case hb => first | exact hm1 | exact hm1.below (B := b + 1) (Below.refl _ _).drew (Nat.lt_succ_self _)); rintro e w2 ⟨rfl, hg2, hm2⟩))
          go_roundw
          case rel =>
            have hw1 : Below B wr w1 := Below.grown (w := _) (by repeat' (first | exact Below.refl _ _ | exact hsz | exact hlt | exact hBr | refine Below.drew ?_ | refine Below.alloc ?_ ?_ _ | refine Below.setCell ?_ ?_ _ | refine below_drewN ?_ _)) hg1 (by simp; omega) (fun j hj => by cases hj; exact hB)
            exact ⟨k + 1, by omega, by go_num, ⟨_, _, hm2, by omega, hT3.out, HZ.out⟩, below1 _ (Below.grown (w := _) (by first | exact hw1 | exact hw1.drew) hg2 (by first | exact Nat.le_trans (by omega : B ≤ wr.heap.size) hw1.size | (simp; exact Nat.le_trans (by omega : B ≤ wr.heap.size) hw1.size)) (fun j hj => by cases hj; exact hB))⟩
          case measure => simp [intOf]; omega
    · obtain rfl : k = ys.length := by omega
      have hz : res = true := by
        obtain ⟨σ', n', _, _, _, hres⟩ := hrel.out
        rw [hres, List.drop_length]; rfl
      have HZ := Lib.hid hz
      clear hz hy hrel HR
      go_wp2
      go_ret
      exact ⟨bret HZ.out.symm, hb⟩
end Go.Proofs.YtclhglickeoocaaGreatDoor
end

