import Derived.Test.YtclhglickeoocaaGreatDoorSB
import Derived.Test.YtclhglickeoocaaGreatDoorTM
section
/- slices.SortedFunc over the map of seven fractions, as a call of the evaluator's table. -/
namespace Go.Ev.Tryz
open Go.RowKit Go Go.Proofs.YtclhglickeoocaaGreatDoor

/-- The rows of the fractions' numbers. -/
def rowsF : List (Nat × Option RO) := (m17.F.take 13).reverse

def esOf : Option RO → List MapEntry
  | some (.map es _) => es
  | _ => []

/-- The map's entries. -/
def es17 : List MapEntry := esOf ((m17.F.drop 13).headD (0, none)).2

/-- The entry of each rank, and the rank of each entry. -/
def ordL : List Nat := [2, 4, 1, 0, 3, 6, 5]
def rkL : List Nat := [3, 2, 0, 4, 1, 6, 5]
def rk (i : Nat) : Nat := rkL.getD i 7

/-- The element of rank i. -/
def vr (i : Nat) : Value := ((es17.map (·.val)).getD (ordL.getD i 0) .nilFunc)

def cmpN (i j : Nat) : Int := if i < j then -1 else if j < i then 1 else 0

noncomputable def okCmp (r : Ans (Value × List (Nat × Option RO) × Nat)) (c : Int) : Bool :=
  match r with
  | .ok (v, l, m) => eqV 8 v (.int .i64 c) && rowsF.all (fun p => eqP (p.1, memOf l p.1) p) && lowNames l
  | .no _ _ => false

theorem okCmp_ok {r : Ans (Value × List (Nat × Option RO) × Nat)} {c : Int} (h : okCmp r c = true) : ∃ l m, r = .ok (.int .i64 c, l, m) ∧ (∀ p ∈ rowsF, memOf l p.1 = p.2) ∧ ∀ p ∈ l, p.1 < big := by
  unfold okCmp at h
  split at h
  · rename_i v l m
    simp only [Bool.and_eq_true] at h
    have e1 := eqV_eq 8 h.1.1
    subst e1
    refine ⟨l, m, rfl, fun p hp => ?_, lowNames_ok h.2⟩
    have h2 := h.1.2
    rw [List.all_eq_true] at h2
    have := eqP_eq (h2 p hp)
    exact congrArg Prod.snd this
  · cases h

noncomputable def allCmp : Bool := (List.range 7).all fun i => (List.range 7).all fun j => okCmp (evalMemo env 40000 44 [vr i, vr j] rowsF 2028) (cmpN i j)

theorem allCmp_true : allCmp = true := by kernel_rfl

theorem cmp_ans {i j : Nat} (hi : i < 7) (hj : j < 7) : ∃ l m, evalMemo env 40000 44 [vr i, vr j] rowsF 2028 = .ok (.int .i64 (cmpN i j), l, m) ∧ (∀ p ∈ rowsF, memOf l p.1 = p.2) ∧ ∀ p ∈ l, p.1 < big := by
  have h := allCmp_true
  unfold allCmp at h
  rw [List.all_eq_true] at h
  have h1 := h i (List.mem_range.2 hi)
  rw [List.all_eq_true] at h1
  exact okCmp_ok (h1 j (List.mem_range.2 hj))
end Go.Ev.Tryz
end

section
namespace Go.Ev.Tryz
open Go.RowKit Go Go.Proofs.YtclhglickeoocaaGreatDoor

theorem fn_of_memo {E : Env} (ok : EnvOK E) {fuel : Nat} {f : FuncId} {args : List Value} {F l : List (Nat × Option RO)} {n m : Nat} {v : Value} (he : evalMemo E fuel f args F n = .ok (v, l, m)) (hb : ∀ p ∈ l, p.1 < big) :
    FnOK E f args (memOf F) n v (memOf l) m := (narrow_ok ok (evalCode_ok ok fuel) he hb).2

/-- A slice that is nil, or lies in a block with a low name. -/
def sl (N : Nat) : Value → Bool
  | .slice none n c => n == 0 && c == 0
  | .slice (some ⟨a, _, none⟩) _ _ => decide (a < N)
  | _ => false

def shp (N : Nat) : Value → Bool
  | .agg ⟨[.bool _, x, y]⟩ => sl N x && sl N y
  | _ => false

theorem sl_rel {ρ ρ2 : Ren} {N : Nat} (hρ : ∀ i, i < N → ρ2 i = ρ i) {v v' : Value} (h : VRel ρ v v') (hs : sl N v = true) : ∃ p n c, v' = .slice p n c ∧ VRel ρ2 v v' := by
  cases h with
  | nilSlice => exact ⟨_, _, _, rfl, .nilSlice⟩
  | slice h1 h2 h3 h4 h5 =>
    exact ⟨_, _, _, rfl, .slice (by rw [hρ _ (by simpa [sl] using hs)]; exact h1) h2 h3 h4 h5⟩
  | _ => cases hs

theorem shp_rel {ρ ρ2 : Ren} {N : Nat} (hρ : ∀ i, i < N → ρ2 i = ρ i) {v v' : Value} (h : VRel ρ v v') (hs : shp N v = true) :
    ∃ f : Fr, v' = .agg #[.bool f.s, .slice f.p f.m f.k, .slice f.q f.d f.e] ∧ VRel ρ2 v v' := by
  unfold shp at hs
  split at hs
  · rename_i b x y
    rw [Bool.and_eq_true] at hs
    cases h with
    | agg hc =>
      cases hc with
      | cons h1 hc =>
        cases hc with
        | cons h2 hc =>
          cases hc with
          | cons h3 hc =>
            cases hc
            cases h1
            obtain ⟨p, n, c, rfl, k1⟩ := sl_rel hρ h2 hs.1
            obtain ⟨q, d, e, rfl, k2⟩ := sl_rel hρ h3 hs.2
            exact ⟨⟨b, p, n, c, q, d, e⟩, rfl, .agg (.cons (.bool b) (.cons k1 (.cons k2 .nil)))⟩
  · cases hs

/-- A row of flat values under another renaming. -/
theorem flatRow_rel {ρ ρ2 : Ren} {l : Loc} {es : ES} {c : List Value} {o' : Obj} (hc : flats c = true) (h : ORel ρ l (.cells es c) o') : ORel ρ2 l (.cells es c) o' := by
  cases h with
  | cells hz hs ho hf hv hT hw =>
    refine ORel.cells hz hs ho hf ?_ hT hw
    have e := VRels.eq_of_flats hc hv
    rw [e]
    exact VRels.of_flats hc

theorem ERels.get {ρ : Ren} : ∀ {es es' : List MapEntry}, ERels ρ es es' → ∀ {i : Nat} {e : MapEntry}, es[i]? = some e → ∃ e', es'[i]? = some e' ∧ ERel ρ e e'
  | _, _, .nil, i, e, h => by cases h
  | _, _, .cons h hs, 0, e, he => by
    simp only [List.getElem?_cons_zero, Option.some.injEq] at he ⊢
    subst he
    exact ⟨_, rfl, h⟩
  | _, _, .cons h hs, i + 1, e, he => by
    simp only [List.getElem?_cons_succ] at he ⊢
    exact ERels.get hs he

theorem ERels.borns {ρ : Ren} : ∀ {es es' : List MapEntry}, ERels ρ es es' → es'.map (·.born) = es.map (·.born)
  | _, _, .nil => rfl
  | _, _, .cons h hs => by simp only [List.map_cons, h.born, ERels.borns hs]

def isFlatRow : Option RO → Bool
  | some (.cells _ c) => flats c
  | _ => false
theorem rows_flat : rowsF.all (fun p => isFlatRow p.2 && decide (p.1 < 2028)) = true := by decide

theorem memOf_rows {i : Nat} {o : RO} (h : memOf rowsF i = some o) : (i, some o) ∈ rowsF := by
  rw [memOf_get (fun p hp => by
    have := rows_flat
    rw [List.all_eq_true] at this
    have h1 := this p hp
    simp only [Bool.and_eq_true, decide_eq_true_eq] at h1
    have : (2028 : Nat) < big := by decide
    omega)] at h
  split at h
  · rename_i o2 ho
    subst h
    exact lookL_mem ho
  · cases h

theorem rows_facts {i : Nat} {o : RO} (h : memOf rowsF i = some o) : i < 2028 ∧ ∃ es c, o = .cells es c ∧ flats c = true := by
  have hm := memOf_rows h
  have := rows_flat
  rw [List.all_eq_true] at this
  have h1 := this _ hm
  simp only [Bool.and_eq_true, decide_eq_true_eq] at h1
  refine ⟨h1.2, ?_⟩
  have h2 := h1.1
  unfold isFlatRow at h2
  split at h2
  · rename_i es c he
    injection he with he
    exact ⟨es, c, he, h2⟩
  · cases h2

/-- The renaming of the names below 2028. -/
def low (ρ : Ren) : Ren := fun i => if i < 2028 then ρ i else none
theorem low_eq (ρ : Ren) : ∀ i, i < 2028 → low ρ i = ρ i := fun i h => by unfold low; rw [if_pos h]

theorem cmpG (ρ : Ren) (hbase : BaseP env.P ρ 2028) (f : Nat → Fr) (hf : ∀ i, i < 7 → VRel (low ρ) (vr i) (.agg #[.bool (f i).s, .slice (f i).p (f i).m (f i).k, .slice (f i).q (f i).d (f i).e])) :
    CmpG f cmpN 7 (Named (low ρ) (memOf rowsF)) (fun W => HRel (low ρ) (memOf rowsF) W) where
  keep W W' hG hs := by
    refine ⟨fun i o ho => ?_, hG.inj⟩
    obtain ⟨l, o', h1, h2, h3⟩ := hG.at_ i o ho
    exact ⟨l, o', h1, (hs l.g ⟨i, l, by rw [ho]; simp, h1, rfl⟩).trans h2, h3⟩
  cmp i j hi hj W hG := by
    obtain ⟨l, m, he, hl1, hl2⟩ := cmp_ans hi hj
    have hF := fn_of_memo ok he hl2
    have hb : Base env (low ρ) 2028 := ⟨hbase.1, fun g hg => by
      obtain ⟨lc, k1, k2⟩ := hbase.2 g hg
      exact ⟨lc, by rw [low_eq ρ g (Nat.lt_of_lt_of_le hg hbase.1)]; exact k1, k2⟩⟩
    intro cs
    obtain ⟨ρ', w', v', hg, hv, fr, k1, k2, k3⟩ := hF (low ρ) W _ hb hG (.cons (hf i hi) (.cons (hf j hj) .nil)) (fun i h1 _ => by unfold low; rw [if_neg (by omega)]) cs
    cases hv
    have hold : ∀ i o, memOf rowsF i = some o → memOf l i = some o := fun i o ho => hl1 _ (memOf_rows ho)
    have hsame : ∀ i o, memOf rowsF i = some o → ρ' i = low ρ i := fun i o ho => hg.ext i (fun h => by have := (rows_facts ho).1; omega)
    refine ⟨_, w', fr, ⟨rfl, ⟨fun i o ho => ?_, fun i j li lj h1 h2 h3 h4 h5 => ?_⟩, ⟨hg.os, hg.tape, hg.output, hg.size, hg.block⟩⟩, k1, k2, k3⟩
    · obtain ⟨lc, o', q1, q2, q3⟩ := hg.rel.at_ i o (hold i o ho)
      obtain ⟨_, es, c, rfl, hc⟩ := rows_facts ho
      exact ⟨lc, o', by rw [← hsame i _ ho]; exact q1, q2, flatRow_rel hc q3⟩
    · obtain ⟨oi, hoi⟩ := Option.ne_none_iff_exists'.1 h1
      obtain ⟨oj, hoj⟩ := Option.ne_none_iff_exists'.1 h2
      exact hg.rel.inj i j li lj (by rw [hold i oi hoi]; simp) (by rw [hold j oj hoj]; simp) (by rw [hsame i oi hoi]; exact h3) (by rw [hsame j oj hoj]; exact h4) h5
end Go.Ev.Tryz
end

section
namespace Go.Ev.Tryz
open Go.RowKit Go Go.Proofs.YtclhglickeoocaaGreatDoor

theorem box17 : memOf m17.F 2027 = some (.cells ⟨1, some 80, true⟩ [.map (some 1656)]) := by kernel_rfl
theorem map17 : memOf m17.F 1656 = some (.map es17 7) := by kernel_rfl
theorem shp17 : ((List.range 7).all fun i => shp 2028 (vr i)) = true := by kernel_rfl
theorem born17 : es17.map (·.born) = List.range 7 := by kernel_rfl
theorem len17 : es17.length = 7 := by kernel_rfl
theorem rows17 : (rowsF.all fun p => eqP (p.1, memOf m17.F p.1) p) = true := by kernel_rfl
theorem names17 : (m17.F.all fun p => decide (p.1 < 2028) && (p.1 == 2027 || p.1 == 1656 || rowsF.any fun q => q.1 == p.1)) = true := by kernel_rfl
theorem rowNames : (rowsF.all fun p => p.1 != 2027 && p.1 != 1656) = true := by kernel_rfl
def row17 : List Value := (List.range 7).flatMap fun i => (vr i).cells.toList
theorem keep17 : m17.keep = m17.F ++ [(2028, some (.cells ⟨3, some 69, false⟩ row17))] := by kernel_rfl
theorem ones17 : ones row17 = true := by kernel_rfl
theorem lenRow17 : row17.length = 21 := by kernel_rfl
theorem args17 : m17.args = [.func (.func 81) ⟨[]⟩ ⟨[.pointer (some ⟨2027, 0, none⟩)]⟩, .func (.func 44) ⟨[]⟩ ⟨[]⟩] := rfl
theorem v17 : m17.v = .slice (some ⟨2028, 0, none⟩) 7 7 := rfl
theorem n17 : m17.n = 2028 := rfl
theorem mm17 : m17.m = 2029 := rfl
theorem rk_ord (i : Nat) (h : i < 7) : rk i < 7 ∧ ordL.getD (rk i) 0 = i := by
  have : ∀ j ∈ List.range 7, rk j < 7 ∧ ordL.getD (rk j) 0 = j := by decide
  exact this i (List.mem_range.2 h)
theorem ord_lt (i : Nat) (h : i < 7) : ordL.getD i 0 < 7 := by
  have : ∀ j ∈ List.range 7, ordL.getD j 0 < 7 := by decide
  exact this i (List.mem_range.2 h)

theorem cmpN_lt (a b : Nat) : cmpN a b < 0 ↔ a < b := by
  unfold cmpN
  by_cases h : a < b
  · simp [h]
  · by_cases h2 : b < a <;> simp [h, h2]

theorem low17 : ∀ p ∈ m17.F, p.1 < big := fun p hp => by
  have h := names17
  rw [List.all_eq_true] at h
  have h1 := h p hp
  simp only [Bool.and_eq_true, decide_eq_true_eq] at h1
  have : (2028 : Nat) < big := by decide
  omega

/-- A name of the call's memory: the box, the map, or a row. -/
theorem name17 {i : Nat} {o : RO} (h : memOf m17.F i = some o) : i < 2028 ∧ (i = 2027 ∨ i = 1656 ∨ memOf rowsF i = some o) := by
  have h0 := h
  rw [memOf_get low17 i] at h
  split at h
  · rename_i o2 ho
    subst h
    have hm := lookL_mem ho
    have k := names17
    rw [List.all_eq_true] at k
    have k1 := k _ hm
    simp only [Bool.and_eq_true, decide_eq_true_eq, Bool.or_eq_true, beq_iff_eq, List.any_eq_true] at k1
    refine ⟨k1.1, ?_⟩
    rcases k1.2 with (k2 | k2) | ⟨q, hq, e⟩
    · exact .inl k2
    · exact .inr (.inl k2)
    · refine .inr (.inr ?_)
      have r := rows17
      rw [List.all_eq_true] at r
      have r1 := congrArg Prod.snd (eqP_eq (r q hq))
      simp only at r1
      rw [e, h0] at r1
      rw [memOf_get (fun p hp => by
        have := rows_flat
        rw [List.all_eq_true] at this
        have h1 := this p hp
        simp only [Bool.and_eq_true, decide_eq_true_eq] at h1
        have : (2028 : Nat) < big := by decide
        omega)]
      cases hl : lookL rowsF i with
      | none =>
        exfalso
        unfold lookL at hl
        rw [Option.map_eq_none_iff, List.find?_eq_none] at hl
        exact hl q hq (by simpa using e)
      | some o3 =>
        have hm3 := lookL_mem hl
        have r3 := congrArg Prod.snd (eqP_eq (r _ hm3))
        simp only at r3
        rw [h0] at r3
        exact r3.symm
  · cases h

theorem row_in {i : Nat} {o : RO} (h : memOf rowsF i = some o) : memOf m17.F i = some o ∧ i ≠ 2027 ∧ i ≠ 1656 := by
  have hm := memOf_rows h
  have r := rows17
  rw [List.all_eq_true] at r
  have r1 := congrArg Prod.snd (eqP_eq (r _ hm))
  have k := rowNames
  rw [List.all_eq_true] at k
  have k1 := k _ hm
  simp only [Bool.and_eq_true, bne_iff_ne] at k1
  exact ⟨r1, k1.1, k1.2⟩

theorem keep_get (i : Nat) : memOf m17.keep i = if i = 2028 then some (.cells ⟨3, some 69, false⟩ row17) else memOf m17.F i := by
  rw [keep17]
  have hb : ∀ p ∈ m17.F ++ [((2028 : Nat), some (RO.cells ⟨3, some 69, false⟩ row17))], p.1 < big := by
    intro p hp
    rcases List.mem_append.1 hp with hp | hp
    · exact low17 p hp
    · simp only [List.mem_singleton] at hp; subst hp; decide
  rw [memOf_get hb, memOf_get low17]
  have e : lookL (m17.F ++ [((2028 : Nat), some (RO.cells ⟨3, some 69, false⟩ row17))]) i = match lookL m17.F i with | some o => some o | none => if i = 2028 then some (some (RO.cells ⟨3, some 69, false⟩ row17)) else none := by
    unfold lookL
    rw [List.find?_append]
    cases hf : m17.F.find? fun p => p.1 == i with
    | some p => rfl
    | none =>
      by_cases h : i = 2028
      · subst h; rfl
      · have : ((2028 : Nat) == i) = false := by simpa using fun e => h e.symm
        simp [List.find?_cons, this, h]
  rw [e]
  by_cases h : i = 2028
  · subst h
    have : lookL m17.F 2028 = none := lookL_none fun p hp e => by
      have k := names17
      rw [List.all_eq_true] at k
      have k1 := k p hp
      simp only [Bool.and_eq_true, decide_eq_true_eq] at k1
      omega
    rw [this]; rfl
  · simp only [if_neg h]
    cases lookL m17.F i <;> rfl
end Go.Ev.Tryz
end

