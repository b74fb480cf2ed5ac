/- A ground evaluator for closed calls, part Rb: calls of functions. -/
import Derived.Test.YtggcnnpklkmeoaaGreatDoorEO
section
namespace Go.Ev
open Go.RowKit

/-- What a call of a function does, in all memories. -/
def FnOK (E : Env) (f : FuncId) (args : List Value) (h : Mem) (n : Nat) (v : Value) (h' : Mem) (n' : Nat) : Prop :=
  ∀ ρ w args', Base E ρ n → HRel ρ h w → VRels ρ args args' → Fresh ρ n n' → ∀ (cf : List Frame),
    ∃ ρ' w' v', Goes ρ h n w ρ' h' n' w' ∧ VRel ρ' v v' ∧ ∃ fr, Steps E.P (lone (Frame.enter E.P f ⟨args'⟩ .normal) cf w) (lone fr cf w') ∧ fr.fn = f ∧ fr.leaving E.P w' (.returned v')

theorem callFn_ok {E : Env} (ok : EnvOK E) {code : CodeT} (hc : CodeOK E code) {f : FuncId} {args : List Value} {h : Tr RO} {n : Nat} {v : Value} {h' : Tr RO} {n' : Nat} (he : callFn E code f args h n = .ok (v, h', n')) :
    n ≤ n' ∧ FnOK E f args (getR h) n v (getR h') n' := by
  unfold callFn runFn at he
  split at he
  · rename_i fn hfn
    split at he
    · rename_i c hbody
      rw [cond_eq_ite] at he
      split at he
      · rename_i hcond
        rw [Bool.and_eq_true, blt_iff, ble_iff, decide_eq_true_eq, decide_eq_true_eq, lenR_eq] at hcond
        split at he
        · rename_i outs hcode
          dsimp only at he
          obtain ⟨b1, b2, b3⟩ := body_ok ok hc hfn hbody hcond.1 hcond.2 hcode
          split at he
          · rename_i o
            have hn' : n' = o.2.2.n := by
              have := leaveX_n he
              exact this
            refine ⟨by rw [hn']; exact b2 o (by simp), fun ρ w args' hb hh hargs hf cf => ?_⟩
            obtain ⟨o2, ho2, v2, h2, n2, hl, en, ρ', w', v', g, hv, hfr⟩ := b3 n' ρ w args' (fun o2 ho2 => by rw [List.mem_singleton] at ho2; rw [ho2, hn']; exact Nat.le_refl _) (fun o2 ho2 => by rw [List.mem_singleton] at ho2; rw [ho2]; exact ⟨_, he⟩) hb hh hargs hf cf
            rw [List.mem_singleton] at ho2
            subst ho2
            rw [he] at hl
            injection hl with hl; injection hl with e1 e2; injection e2 with e2 e3
            subst e1; subst e2
            rw [← e3] at g
            exact ⟨ρ', w', v', g, hv, hfr⟩
          · cases he
        · cases he
      · cases he
    · cases he
  · cases he

/-- What a call of a function does, in all memories, up to the end of the call. -/
def FinOK (E : Env) (f : FuncId) (args : List Value) (h : Mem) (n : Nat) (v : Value) (h' : Mem) (n' : Nat) : Prop :=
  ∀ ρ w args', Base E ρ n → HRel ρ h w → VRels ρ args args' → Fresh ρ n n' → ∀ (c : Frame) (cs : List Frame),
    ∃ ρ' w' v', Goes ρ h n w ρ' h' n' w' ∧ VRel ρ' v v' ∧ Steps E.P (lone (Frame.enter E.P f ⟨args'⟩ .normal) (c :: cs) w) (lone (c.finish v') cs w')

theorem FnOK.fin {E : Env} {f : FuncId} {args : List Value} {h : Mem} {n : Nat} {v : Value} {h' : Mem} {n' : Nat} (k : FnOK E f args h n v h' n') : FinOK E f args h n v h' n' := by
  intro ρ w args' a b c d cc cs
  obtain ⟨ρ', w', v', g, hv, hfr⟩ := k ρ w args' a b c d (cc :: cs)
  exact ⟨ρ', w', v', g, hv, leaving_finish hfr⟩

theorem HRel.sub {ρ : Ren} {h h' : Mem} {w : World} (hh : HRel ρ h w) (hs : ∀ i, h' i = h i ∨ h' i = none) : HRel ρ h' w := by
  have q : ∀ x o, h' x = some o → h x = some o := by
    intro x o hx
    rcases hs x with e | e
    · rw [← e]; exact hx
    · rw [e] at hx; cases hx
  have q' : ∀ x, h' x ≠ none → h x ≠ none := by
    intro x hx
    cases hy : h' x with
    | none => exact absurd hy hx
    | some o => rw [q x o hy]; simp
  exact ⟨fun j o ho => hh.at_ j o (q j o ho), fun j j' lj lj' h1 h2 => hh.inj j j' lj lj' (q' j h1) (q' j' h2)⟩

theorem Goes.less {ρ ρ' : Ren} {h h' h'' : Mem} {n n' m : Nat} {w w' : World} (k : Goes ρ h n w ρ' h' n' w') (hs : ∀ i, h'' i = h' i ∨ h'' i = none) (hm : n' ≤ m) : Goes ρ h n w ρ' h'' m w' where
  le := Nat.le_trans k.le hm
  ext i hi := k.ext i (by omega)
  rel := k.rel.sub hs
  os := k.os
  tape := k.tape
  output := k.output
  size := k.size
  block := k.block
  own g hg := by
    obtain ⟨i, l, h1, h2, h3⟩ := hg
    refine k.own g ⟨i, l, ?_, h2, h3⟩
    rcases hs i with e | e
    · rw [← e]; exact h1
    · rw [e] at h1; exact absurd rfl h1

/-- The first entry for a name. -/
def lookL (l : List (Nat × Option RO)) (i : Nat) : Option (Option RO) := (l.find? fun p => p.1 == i).map (·.2)

theorem putAll_get {h : Tr RO} : ∀ {l : List (Nat × Option RO)}, (∀ p ∈ l, p.1 < big) → ∀ i, getR (putAll h l) i = (match lookL l i with | some o => o | none => getR h i)
  | [], _, i => rfl
  | p :: l, hb, i => by
    have e : putAll h (p :: l) = putR (putAll h l) p.1 p.2 := rfl
    rw [e, getR_putR _ _ _ (hb p (by simp)), putAll_get (fun q hq => hb q (by simp [hq]))]
    unfold lookL
    rw [List.find?_cons]
    by_cases he : i = p.1
    · subst he; simp
    · have : (p.1 == i) = false := by simpa using fun e => he e.symm
      rw [if_neg he, this]

theorem lookL_none {l : List (Nat × Option RO)} {i : Nat} (h : ∀ p ∈ l, p.1 ≠ i) : lookL l i = none := by
  unfold lookL
  rw [List.find?_eq_none.2]
  · rfl
  · intro p hp
    simpa using h p hp

theorem lookL_mem {l : List (Nat × Option RO)} {i : Nat} {o : Option RO} (h : lookL l i = some o) : (i, o) ∈ l := by
  unfold lookL at h
  cases hf : l.find? fun p => p.1 == i with
  | none => rw [hf] at h; cases h
  | some p =>
    rw [hf] at h
    have h1 := List.find?_some hf
    have h2 := List.mem_of_find?_eq_some hf
    have h1' : p.1 = i := by simpa using h1
    have h3 : p.2 = o := by simpa using h
    rw [← h1', ← h3]; exact h2

theorem held_look {h : Tr RO} : ∀ {R : List Nat} {i : Nat}, lookL (held h R) i = if i ∈ R then some (getR h i) else none
  | [], i => rfl
  | j :: R, i => by
    have e : held h (j :: R) = (j, getR h j) :: held h R := rfl
    have ih := held_look (h := h) (R := R) (i := i)
    unfold lookL at ih ⊢
    rw [e, List.find?_cons]
    by_cases hj : j = i
    · subst hj; simp
    · have : (j == i) = false := by simpa using hj
      simp only [this]
      rw [ih]
      simp [Ne.symm hj]

theorem held_names {h : Tr RO} : ∀ {R : List Nat} {p : Nat × Option RO}, p ∈ held h R → p.1 ∈ R
  | [], p, hp => by cases hp
  | j :: R, p, hp => by
    have e : held h (j :: R) = (j, getR h j) :: held h R := rfl
    rw [e] at hp
    rcases List.mem_cons.1 hp with rfl | hp
    · simp
    · exact List.mem_cons_of_mem _ (held_names hp)

theorem memOf_get {l : List (Nat × Option RO)} (hb : ∀ p ∈ l, p.1 < big) (i : Nat) : memOf l i = (match lookL l i with | some o => o | none => none) := by
  unfold memOf
  rw [putAll_get hb i]
  rfl

theorem memOf_held {h : Tr RO} {R : List Nat} (hb : ∀ p ∈ held h R, p.1 < big) (i : Nat) : memOf (held h R) i = if i ∈ R then getR h i else none := by
  rw [memOf_get hb i, held_look]
  by_cases hi : i ∈ R
  · rw [if_pos hi, if_pos hi]
  · rw [if_neg hi, if_neg hi]

theorem oneWay_cons (v : Value) (l : List (Nat × Option RO)) (m : Nat) (r : Ans (Value × List (Nat × Option RO) × Nat)) (rs : List (Ans (Value × List (Nat × Option RO) × Nat))) :
    oneWay v l m (r :: rs) = if eqKept v l r = true then oneWay v l (mostOf m r) rs else none := by
  show (Bool.rec (motive := fun _ => Option Nat) none (oneWay v l (mostOf m r) rs) (eqKept v l r)) = _
  cases eqKept v l r <;> rfl

theorem oneWay_ok {v : Value} {l : List (Nat × Option RO)} : ∀ {rs : List (Ans (Value × List (Nat × Option RO) × Nat))} {m0 m : Nat}, oneWay v l m0 rs = some m → m0 ≤ m ∧ ∀ r ∈ rs, ∃ m', r = .ok (v, l, m') ∧ m' ≤ m
  | [], m0, m, h => by injection h with h; subst h; exact ⟨Nat.le_refl _, fun r hr => by cases hr⟩
  | r :: rs, m0, m, h => by
    rw [oneWay_cons] at h
    split at h
    · rename_i he
      obtain ⟨k1, k2⟩ := oneWay_ok h
      unfold eqKept at he
      split at he
      · rename_i v' l' m'
        rw [Bool.and_eq_true] at he
        have e1 := eqV_eq 8 he.1
        have e2 := eqL_eq (fun _ _ => eqP_eq) he.2
        subst e1; subst e2
        have k1' : Nat.max m0 m' ≤ m := k1
        refine ⟨Nat.le_trans (Nat.le_max_left m0 m') k1', fun q hq => ?_⟩
        rcases List.mem_cons.1 hq with rfl | hq
        · exact ⟨m', rfl, Nat.le_trans (Nat.le_max_right m0 m') k1'⟩
        · exact k2 q hq
      · cases he
    · cases h

theorem kept_ok {E : Env} {fn : Func} {F : List Nat} {o : X × List Nat × St} {v : Value} {l : List (Nat × Option RO)} {m : Nat} (he : kept E fn F o = .ok (v, l, m)) : ∃ h R, leaveX E fn o = .ok (v, h, m) ∧ l = held h R := by
  unfold kept at he
  split at he
  · rename_i v' h' m' hl
    injection he with he; injection he with e1 e2; injection e2 with e2 e3
    subst e1; subst e3
    exact ⟨h', _, hl, e2.symm⟩
  · cases he

theorem narrow_ok {E : Env} (ok : EnvOK E) {code : CodeT} (hc : CodeOK E code) {f : FuncId} {args : List Value} {F : List Nat} {hF : Tr RO} {n : Nat} {v : Value} {l : List (Nat × Option RO)} {m : Nat}
    (he : narrow E code f args F hF n = .ok (v, l, m)) (hl : ∀ p ∈ l, p.1 < big) : n ≤ m ∧ FnOK E f args (getR hF) n v (memOf l) m := by
  unfold narrow at he
  split at he
  · rename_i fn hfn
    split at he
    · rename_i c hbody
      rw [cond_eq_ite] at he
      split at he
      · rename_i hcond
        rw [Bool.and_eq_true, blt_iff, ble_iff, decide_eq_true_eq, decide_eq_true_eq, lenR_eq] at hcond
        split at he
        · rename_i outs hcode
          obtain ⟨b1, b2, b3⟩ := body_ok ok hc hfn hbody hcond.1 hcond.2 hcode
          split at he
          · cases he
          · rename_i o os
            split at he
            · rename_i v0 l0 m0 hk
              split at he
              · rename_i m1 hw
                injection he with he; injection he with e1 e2; injection e2 with e2 e3
                subst e1; subst e2; subst e3
                obtain ⟨w1, w2⟩ := oneWay_ok hw
                have all : ∀ q ∈ o :: os, ∃ m', kept E fn F q = .ok (v0, l0, m') ∧ m' ≤ m1 := by
                  intro q hq
                  rcases List.mem_cons.1 hq with rfl | hq
                  · exact ⟨m0, hk, w1⟩
                  · exact w2 _ (List.mem_map_of_mem hq)
                have alln : ∀ q ∈ o :: os, q.2.2.n ≤ m1 := by
                  intro q hq
                  obtain ⟨m', k1, k2⟩ := all q hq
                  obtain ⟨h, R, k3, _⟩ := kept_ok k1
                  rw [← leaveX_n k3]; exact k2
                refine ⟨Nat.le_trans (b2 o (by simp)) (alln o (by simp)), fun ρ w args' hb hh hargs hf cf => ?_⟩
                obtain ⟨q, hq, v2, h2, n2, hl2, en, ρ', w', v', g, hv, hfr⟩ := b3 m1 ρ w args' alln (fun q hq => by
                  obtain ⟨m', k1, _⟩ := all q hq
                  obtain ⟨h, R, k3, _⟩ := kept_ok k1
                  exact ⟨_, k3⟩) hb hh hargs hf cf
                obtain ⟨m', k1, k2⟩ := all q hq
                obtain ⟨h, R, k3, k4⟩ := kept_ok k1
                rw [hl2] at k3
                injection k3 with k3; injection k3 with e1 e2; injection e2 with e2 e3
                subst e1; subst e2; subst e3
                refine ⟨ρ', w', v', g.less (fun i => ?_) k2, hv, hfr⟩
                subst k4
                rw [memOf_held hl i]
                by_cases hi : i ∈ R
                · rw [if_pos hi]; exact .inl rfl
                · rw [if_neg hi]; exact .inr rfl
              · cases he
            · cases he
        · cases he
      · cases he
    · cases he
  · cases he

theorem within_cons (F : List Nat) (n m : Nat) (p : Nat × Option RO) (l : List (Nat × Option RO)) : within F n m (p :: l) = if ((memN p.1 F || (Nat.ble n p.1 && Nat.blt p.1 m)) && Nat.blt p.1 big) = true then within F n m l else false := by
  show (Bool.rec (motive := fun _ => Bool) false (within F n m l) ((memN p.1 F || (Nat.ble n p.1 && Nat.blt p.1 m)) && Nat.blt p.1 big)) = _
  cases ((memN p.1 F || (Nat.ble n p.1 && Nat.blt p.1 m)) && Nat.blt p.1 big) <;> rfl

theorem within_ok {F : List Nat} {n m : Nat} : ∀ {l : List (Nat × Option RO)}, within F n m l = true → ∀ p ∈ l, (p.1 ∈ F ∨ (n ≤ p.1 ∧ p.1 < m)) ∧ p.1 < big
  | [], _, p, hp => by cases hp
  | q :: l, h, p, hp => by
    rw [within_cons] at h
    split at h
    · rename_i hc
      rw [Bool.and_eq_true, Bool.or_eq_true, Bool.and_eq_true, memN_iff, ble_iff, blt_iff, blt_iff, decide_eq_true_eq, decide_eq_true_eq, decide_eq_true_eq] at hc
      rcases List.mem_cons.1 hp with rfl | hp
      · exact hc
      · exact within_ok h p hp
    · cases h

/-- What a call does on a part of the memory, it does on the whole of it. -/
theorem spread_ok {E : Env} {f : FuncId} {args : List Value} {F : List Nat} {h : Tr RO} {n : Nat} {v v0 : Value} {l : List (Nat × Option RO)} {m m0 : Nat} {h' : Tr RO}
    (he : spread F h n (.ok (v0, l, m0)) = .ok (v, h', m)) (hp : (∀ p ∈ l, p.1 < big) → (∀ i ∈ F, i < big) → FinOK E f args (only F (getR h)) n v0 (memOf l) m0) : n ≤ m ∧ FinOK E f args (getR h) n v (getR h') m := by
  unfold spread at he
  dsimp only at he
  rw [cond_eq_ite] at he
  split at he
  · rename_i hc
    rw [Bool.and_eq_true, Bool.and_eq_true, allLt_iff, ble_iff, decide_eq_true_eq] at hc
    obtain ⟨⟨c1, c2⟩, c3⟩ := hc
    injection he with he; injection he with e1 e2; injection e2 with e2 e3
    subst e1; subst e2; subst e3
    have hw := within_ok c1
    have hlb : ∀ p ∈ l, p.1 < big := fun p hp => (hw p hp).2
    refine ⟨c3, fun ρ w args' hb hh hargs hf cc cs => ?_⟩
    have hsub : HRel ρ (only F (getR h)) w := hh.sub fun i => by
      unfold only
      by_cases hi : i ∈ F
      · rw [if_pos hi]; exact .inl rfl
      · rw [if_neg hi]; exact .inr rfl
    obtain ⟨ρ', w', v', g, hv, hst⟩ := hp hlb c2 ρ w args' hb hsub hargs hf cc cs
    refine ⟨ρ', w', v', ?_, hv, hst⟩
    have g2 := g.frame hh hf
    have e : mergeF F n m0 (memOf l) (getR h) = getR (putAll (overL h .e F) l) := by
      funext i
      rw [putAll_get hlb i]
      by_cases hi : i ∈ F
      · rw [mergeF_in (.inl hi), memOf_get hlb i]
        cases lookL l i with
        | some o => rfl
        | none =>
          dsimp only
          rw [overL_get c2, if_pos hi]
          exact (getR_e i).symm
      · by_cases hr : n ≤ i ∧ i < m0
        · rw [mergeF_in (.inr hr), memOf_get hlb i]
          cases lookL l i with
          | some o => rfl
          | none =>
            dsimp only
            rw [overL_get c2, if_neg hi]
            exact (hh.not_in (hf i hr.1 hr.2)).symm
        · rw [mergeF_out hi hr, lookL_none (fun p hp e => by
            subst e
            rcases (hw p hp).1 with k | k
            · exact hi k
            · exact hr k)]
          dsimp only
          rw [overL_get c2, if_neg hi]
    rw [← e]; exact g2
  · cases he

theorem pickH_only {h : Tr RO} {F : List Nat} (hb : ∀ i ∈ F, i < big) : getR (pickH h F) = only F (getR h) := by
  funext i
  rw [pickH_get hb]; rfl

theorem findMemo_cons (args : List Value) (F : List (Nat × Option RO)) (n : Nat) (M : Memo) (l : List Memo) : findMemo args F n (M :: l) = if fitsMemo args F n M = true then some M else findMemo args F n l := by
  show (Bool.rec (motive := fun _ => Option Memo) (findMemo args F n l) (some M) (fitsMemo args F n M)) = _
  cases fitsMemo args F n M <;> rfl

theorem findMemo_ok {args : List Value} {F : List (Nat × Option RO)} {n : Nat} {M : Memo} : ∀ {l : List Memo}, findMemo args F n l = some M → M ∈ l ∧ M.args = args ∧ M.F = F ∧ M.n = n
  | [], h => by cases h
  | A :: l, h => by
    rw [findMemo_cons] at h
    split at h
    · rename_i hf
      injection h with h; subst h
      unfold fitsMemo at hf
      rw [Bool.and_eq_true, Bool.and_eq_true] at hf
      exact ⟨by simp, (eqL_eq (fun _ _ => eqV_eq 8) hf.1.2).symm, (eqL_eq (fun _ _ => eqP_eq) hf.2).symm, (Nat.eq_of_beq_eq_true hf.1.1).symm⟩
    · obtain ⟨a, b⟩ := findMemo_ok h
      exact ⟨List.mem_cons_of_mem _ a, b⟩

theorem callFun_ok {E : Env} (ok : EnvOK E) {code : CodeT} (hc : CodeOK E code) {f : FuncId} {args : List Value} {h : Tr RO} {n : Nat} {v : Value} {h' : Tr RO} {n' : Nat} (he : callFun E code f args h n = .ok (v, h', n')) :
    n ≤ n' ∧ FinOK E f args (getR h) n v (getR h') n' := by
  unfold callFun at he
  split at he
  · rename_i l hl
    unfold callMemo at he
    split at he
    · rename_i M hM
      obtain ⟨m1, m2, m3, m4⟩ := findMemo_ok hM
      refine spread_ok he fun hb hF ρ w args' hbase hh hargs hf cc cs => ?_
      have hheld : ∀ p ∈ held h (footCall args h n), p.1 < big := fun p hp => hF _ (held_names hp)
      have e : memOf M.F = only (footCall args h n) (getR h) := by
        funext i
        rw [m3, memOf_held hheld i]; rfl
      have := ok.memo _ _ hl M m1 ρ w args' (by rw [m4]; exact hbase) (by rw [e]; exact hh) (by rw [m2]; exact hargs) (by rw [m4]; exact hf) cc cs
      rw [e, m4] at this
      exact this
    · cases he
  · split at he
    · cases hn : narrow E code f args (footCall args h n) (pickH h (footCall args h n)) n with
      | no w x => rw [hn] at he; cases he
      | ok r =>
        obtain ⟨v0, l, m⟩ := r
        rw [hn] at he
        have hm : n' = m := by
          unfold spread at he
          dsimp only at he
          rw [cond_eq_ite] at he
          split at he
          · injection he with he; injection he with _ he; injection he with _ he; exact he.symm
          · cases he
        subst hm
        refine spread_ok he fun hb hF => ?_
        have := (narrow_ok ok hc hn hb).2.fin
        rw [pickH_only hF] at this
        exact this
    · obtain ⟨a, b⟩ := callFn_ok ok hc he
      exact ⟨a, b.fin⟩

end Go.Ev
end

section
/- A ground evaluator for closed calls, part Rc: rounds, and all calls. -/
namespace Go.Ev
open Go.RowKit

theorem setParams_rel {ρ : Ren} {N : Nat} (hN : N ≤ 1000000) : ∀ (ps : List Tmp) {vs vs' : List Value} {σ : Tr Value} {tm : Array Value}, (∀ p ∈ ps, p < N) → VRels ρ vs vs' → tm.size = N → SRel ρ σ tm →
    SRel ρ (setParams ps vs σ) ((ps.zip vs').foldl (fun tmps x => tmps.setIfInBounds x.1 x.2) tm) ∧ ((ps.zip vs').foldl (fun tmps x => tmps.setIfInBounds x.1 x.2) tm).size = N
  | [], vs, vs', σ, tm, _, hv, hz, hs => by
    have e : setParams [] vs σ = σ := rfl
    rw [e]
    simp only [List.zip_nil_left, List.foldl_nil]
    exact ⟨hs, hz⟩
  | p :: ps, _, _, σ, tm, hp, .nil, hz, hs => by
    have e : setParams (p :: ps) [] σ = σ := rfl
    rw [e]
    simp only [List.zip_nil_right, List.foldl_nil]
    exact ⟨hs, hz⟩
  | p :: ps, _, _, σ, tm, hp, .cons (v := v) (v' := v') (vs := vs) (vs' := vs') h hv, hz, hs => by
    have e : setParams (p :: ps) (v :: vs) σ = setParams ps vs (putR σ p (some v)) := rfl
    rw [e]
    have hpN := hp p (by simp)
    obtain ⟨a, b⟩ := putT_rel (N := N) (σ' := putR σ p (some v)) (dst := some p) hN hz (by
      unfold putT
      dsimp only
      rw [cond_eq_ite, blt_iff, if_pos (by simpa using hpN)]) hs h
    exact setParams_rel hN ps (fun q hq => hp q (by simp [hq])) hv b a

theorem zip_arr (ps : Array Tmp) (vs : List Value) (tm : Array Value) : (ps.zip ⟨vs⟩).foldl (fun tmps (x : Tmp × Value) => match x with | (t, a) => tmps.setIfInBounds t a) tm = (ps.toList.zip vs).foldl (fun tmps x => tmps.setIfInBounds x.1 x.2) tm := by
  rw [← Array.foldl_toList]
  simp

theorem callRnd_ok {E : Env} (_ok : EnvOK E) {code : CodeT} (hc : CodeOK E code) {i : Nat} {args : List Value} {h : Tr RO} {n : Nat} {v : Value} {h' : Tr RO} {n' : Nat} (he : callRnd E code i args h n = .ok (v, h', n')) :
    n ≤ n' ∧ Round h (.rnd i) args ∧ ∀ ρ w args' nx fr, Base E ρ n → HRel ρ (getR h) w → VRels ρ args args' → Enters E.P ρ w (.rnd i) args' nx fr → Fresh ρ n n' → ∀ (c : Frame) (cs : List Frame),
      ∃ ρ' w' v', Goes ρ (getR h) n w ρ' (getR h') n' w' ∧ VRel ρ' v v' ∧ Steps E.P (lone fr (c :: cs) w) (lone (c.finish v') cs w') := by
  unfold callRnd at he
  split at he
  · rename_i L hL
    rw [cond_eq_ite] at he
    split at he
    · rename_i hcond
      simp only [Bool.and_eq_true, beq_iff, blt_iff, decide_eq_true_eq, allLt_iff, lenR_eq] at hcond
      obtain ⟨⟨⟨c1, c2⟩, c3⟩, c4⟩ := hcond
      split at he
      · rename_i st1 hassign
        split at he
        · rename_i L2 hL2
          rw [cond_eq_ite] at he
          split at he
          · rename_i hready
            split at he
            · rename_i x st2 hbody
              unfold endRnd at he
              split at he
              · rename_i L3 hL3
                injection he with he; injection he with e1 e2; injection e2 with e2 e3
                obtain ⟨_, an, ap⟩ := hc _ _ _ _ _ hassign
                obtain ⟨_, bn, bp⟩ := hc _ _ _ _ _ hbody
                have an' : n ≤ st1.n := an (X.normal, [], st1) (List.mem_singleton.2 rfl)
                have bn' : st1.n ≤ st2.n := bn (x, [], st2) (List.mem_singleton.2 rfl)
                subst e1; subst e2; subst e3
                refine ⟨Nat.le_trans an' bn', ?_, fun ρ w args' nx fr hb hh hargs hent hf cc cs => ?_⟩
                · intro j hj
                  injection hj with hj; subst hj
                  exact ⟨L, hL, c1⟩
                obtain ⟨l, r, g1, g2, g3, rfl, rfl⟩ := hent
                obtain ⟨l', r', q1, q2, q3⟩ := loop_at hh hL
                rw [g1] at q1; injection q1 with q1; subst q1
                rw [g2] at q2; injection q2 with q2; injection q2 with q2; subst q2
                have hps : ∀ p ∈ r.params.toList, p < L.N := by rw [q3.params]; exact c4
                obtain ⟨s1, s2⟩ := setParams_rel (N := L.N) (by omega) r.params.toList hps hargs q3.size q3.tmps
                have efold : foldParams r ⟨args'⟩ = (r.params.toList.zip args').foldl (fun tmps x => tmps.setIfInBounds x.1 x.2) r.tmps := zip_arr r.params args' r.tmps
                rw [← efold] at s1 s2
                rw [q3.params] at s1
                let b0 : Frame := { (default : Frame) with fn := r.fn, kind := .normal, roundOf := some l.g }
                -- the parameters
                obtain ⟨o1, ho1, ρ1, w1, tm1, ds1, ga, sa, za, ma, arra⟩ := ap (by omega) st1.n r.fn (some l.g) ρ w (foldParams r ⟨args'⟩) (fun o ho => by rw [List.mem_singleton] at ho; rw [ho]; exact Nat.le_refl _) s2 hb s1 hh ⟨l, g1, rfl⟩ (hf.left bn') b0 [.beginRound, .code r.body] (cc :: cs) rfl rfl
                rw [List.mem_singleton] at ho1; subst ho1
                cases ma
                have gr1 := ga.grows (hf.left bn')
                -- the round begins
                obtain ⟨l2, r2, k1, k2, k3⟩ := loop_at ga.rel hL2
                have hl2 : l2 = l := by have := gr1 _ _ g1; rw [k1] at this; injection this
                subst hl2
                have hne1 : getR st1.h i ≠ none := by rw [loopOf_some hL2]; simp
                have hbeg : Goes ρ1 (getR st1.h) st1.n w1 ρ1 (getR (putR st1.h i (some (.loop { L2 with state := .busy })))) st1.n { w1 with heap := w1.heap.setIfInBounds l2.g (.loop { r2 with state := .busy }) } :=
                  goes_update ga.rel hne1 k1 _ _ (fun q => getR_putR st1.h i _ c2 q) (changed_obj _ (lt_of_heap k2)) (.loop ⟨rfl, k3.pending, k3.size, k3.tmps, k3.params, k3.assign, k3.body, k3.defers⟩)
                have hst : r2.state = .ready := by
                  rw [k3.state]
                  unfold isReady at hready
                  split at hready
                  · assumption
                  · cases hready
                -- the body
                have hf1 : Fresh ρ1 st1.n st2.n := ga.fresh hf
                obtain ⟨o2, ho2, ρ2, w2, tm2, ds2, gb, sb, zb, mb, arrb⟩ := bp (by omega) st2.n r.fn (some l2.g) ρ1 _ tm1 (fun o ho => by rw [List.mem_singleton] at ho; rw [ho]; exact Nat.le_refl _) za (hb.goes ga) sa hbeg.rel ⟨l2, k1, rfl⟩ hf1 b0 [] (cc :: cs) rfl rfl
                rw [List.mem_singleton] at ho2; subst ho2
                cases mb
                have gr2 := gb.grows hf1
                -- the round ends
                obtain ⟨l3, r3, j1, j2, j3⟩ := loop_at gb.rel hL3
                have hl3 : l3 = l2 := by have := gr2 _ _ k1; rw [j1] at this; injection this
                subst hl3
                have hne2 : getR st2.h i ≠ none := by rw [loopOf_some hL3]; simp
                have fin : ∀ (r4 : Loop), LRel ρ2 { L3 with state := match x with | .normal => .ready | _ => .done, pending := jumpOf x } r4 →
                    Goes ρ (getR h) n w ρ2 (getR (putR st2.h i (some (.loop { L3 with state := match x with | .normal => .ready | _ => .done, pending := jumpOf x })))) st2.n { w2 with heap := w2.heap.setIfInBounds l3.g (.loop r4) } := by
                  intro r4 hr4
                  exact ga.trans (hbeg.trans (gb.trans (goes_update gb.rel hne2 j1 _ _ (fun q => getR_putR st2.h i _ c2 q) (changed_obj _ (lt_of_heap j2)) (.loop hr4))))
                have hfr : Frame.round l3.g r.fn (foldParams r ⟨args'⟩) r.assign r.body .normal = fat b0 (foldParams r ⟨args'⟩) [.code r.assign, .beginRound, .code r.body] := rfl
                rw [hfr]
                rw [q3.assign, q3.body]
                have to2 : Steps E.P (lone (fat b0 (foldParams r ⟨args'⟩) [.code L.assign, .beginRound, .code L.body]) (cc :: cs) w) (lone (fat b0 tm1 [.code L.body]) (cc :: cs) { w1 with heap := w1.heap.setIfInBounds l3.g (.loop { r2 with state := .busy }) }) := by
                  have := arra
                  rw [q3.body] at this
                  exact Steps.trans this (.one (st_beginRound rfl k2 hst))
                cases x with
                | normal =>
                  refine ⟨ρ2, _, .bool true, fin { r3 with state := .ready, pending := none } ⟨rfl, rfl, j3.size, j3.tmps, j3.params, j3.assign, j3.body, j3.defers⟩, .bool _, ?_⟩
                  exact to2.trans (Steps.trans arrb (.one (st_end_round rfl rfl j2)))
                | ret =>
                  refine ⟨ρ2, _, .bool false, fin { r3 with state := .done, pending := some .ret } ⟨rfl, rfl, j3.size, j3.tmps, j3.params, j3.assign, j3.body, j3.defers⟩, .bool _, ?_⟩
                  obtain ⟨t', s⟩ := arrb
                  exact to2.trans (s.trans (.one (st_ret_round rfl rfl j2)))
                | exit id =>
                  refine ⟨ρ2, _, .bool false, fin { r3 with state := .done, pending := some (.exit id) } ⟨rfl, rfl, j3.size, j3.tmps, j3.params, j3.assign, j3.body, j3.defers⟩, .bool _, ?_⟩
                  obtain ⟨t', e, s⟩ := arrb
                  exact to2.trans (s.trans (.one (st_exit_round rfl rfl e j2)))
              · cases he
            · cases he
            · cases he
          · cases he
        · cases he
      · cases he
      · cases he
    · cases he
  · cases he

theorem callWith_ok {E : Env} (ok : EnvOK E) {code : CodeT} (hc : CodeOK E code) : CallOK E (callWith E code) := by
  intro t args h n v h' n' he
  cases t with
  | fn f =>
    obtain ⟨a, b⟩ := callFun_ok ok hc he
    refine ⟨a, fun i hi => (by cases hi), fun ρ w args' nx fr hb hh hargs hent hf => ?_⟩
    obtain ⟨rfl, rfl⟩ := hent
    exact b ρ w args' hb hh hargs hf
  | rnd i => exact callRnd_ok ok hc he

end Go.Ev
end

