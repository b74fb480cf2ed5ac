/- A ground evaluator for closed calls, part Y: what the evaluation of a drawn region says. -/
import Derived.Test.YtggcnnpklkmeoaaGreatDoorEM
section
namespace Go.Ev
open Go.RowKit

theorem sliceCut_h {E : Env} {st : St} {z i o n : Nat} {lo hi : Option Operand} {out : Out} (he : sliceCut E st z i o n lo hi = some out) : ∃ v, out = .val v st.h st.n := by
  unfold sliceCut at he
  repeat' split at he
  all_goals first
    | cases he; done
    | (injection he with he; exact ⟨_, he.symm⟩)

theorem sliceArr_h {E : Env} {st : St} {e n i o : Nat} {lo hi : Option Operand} {out : Out} (he : sliceArr E st e n i o lo hi = some out) : ∃ v, out = .val v st.h st.n := by
  unfold sliceArr at he
  split at he
  · rw [cond_eq_ite] at he
    split at he
    · exact sliceCut_h he
    · cases he
  · cases he

theorem sliceCut3_h {E : Env} {st : St} {z i o n : Nat} {lo : Option Operand} {hi mx : Operand} {out : Out} (he : sliceCut3 E st z i o n lo hi mx = some out) : ∃ v, out = .val v st.h st.n := by
  unfold sliceCut3 at he
  simp only [cond_eq_ite] at he
  repeat' split at he
  all_goals first
    | cases he; done
    | (injection he with he; exact ⟨_, he.symm⟩)

theorem opSlice_h {E : Env} {st : St} {t : TypeId} {x : Operand} {lo hi mx : Option Operand} {out : Out} (he : opSlice E st t x lo hi mx = some out) : ∃ v, out = .val v st.h st.n := by
  unfold opSlice at he
  simp only [cond_eq_ite] at he
  repeat' split at he
  all_goals first
    | exact sliceCut_h he
    | exact sliceCut3_h he
    | exact sliceArr_h he
    | cases he; done
    | (injection he with he; exact ⟨_, he.symm⟩)

theorem opLoad_h {E : Env} {st : St} {t : TypeId} {x : Operand} {out : Out} (he : opLoad E st t x = some out) : ∃ v, out = .val v st.h st.n := by
  unfold opLoad at he
  repeat' split at he
  all_goals first
    | cases he; done
    | (injection he with he; exact ⟨_, he.symm⟩)

theorem opLen_h {E : Env} {st : St} {ts : List TypeId} {vs : List Value} {out : Out} (he : opLen E st ts vs = some out) : ∃ v, out = .val v st.h st.n := by
  unfold opLen at he
  repeat' split at he
  all_goals first
    | cases he; done
    | (injection he with he; exact ⟨_, he.symm⟩)

theorem opSliceData_h {st : St} {vs : List Value} {out : Out} (he : opSliceData st vs = some out) : ∃ v, out = .val v st.h st.n := by
  unfold opSliceData at he
  simp only [cond_eq_ite] at he
  repeat' split at he
  all_goals first
    | cases he; done
    | (injection he with he; exact ⟨_, he.symm⟩)

theorem opLookup_h {E : Env} {st : St} {t : TypeId} {x ix : Operand} {b : Bool} {out : Out} (he : opLookup E st t x ix b = some out) : ∃ v, out = .val v st.h st.n := by
  unfold opLookup lookupIn lookupP at he
  simp only [cond_eq_ite] at he
  repeat' split at he
  all_goals first
    | cases he; done
    | (injection he with he; exact ⟨_, he.symm⟩)

theorem reads_h {E : Env} {st : St} {o : Oper} {out : Out} (hr : readsOnly o.op = true) (he : evalOp E st o = some out) : ∃ v, out = .val v st.h st.n := by
  unfold evalOp at he
  cases hop : o.op with
  | load t x => rw [hop] at he; exact opLoad_h he
  | slice t x lo hi mx => rw [hop] at he; exact opSlice_h he
  | lookup t x ix b => rw [hop] at he; exact opLookup_h he
  | call c =>
    rw [hop] at he hr
    have hr' : (match c.callee with | .builtin .len => true | .builtin .unsafeSliceData => true | _ => false) = true := hr
    have he' : opCall E st c o.type = some out := he
    unfold opCall at he'
    split at he'
    · cases he'
    · cases hc : c.callee with
      | value f => rw [hc] at hr'; cases hr'
      | invoke a b => rw [hc] at hr'; cases hr'
      | builtin b =>
        rw [hc] at hr' he'
        cases b with
        | len => exact opLen_h he'
        | unsafeSliceData => exact opSliceData_h he'
        | _ => cases hr'
  | _ => rw [hop] at hr; cases hr

theorem indepAll_spec {E : Env} {r : Rec} {p : List Nat} (hr : ∀ i ∈ r.W, i ∈ r.F) : ∀ {rs : List Rec}, (∀ a ∈ rs, ∀ i ∈ a.W, i ∈ a.F) → indepAll E r p rs = true → ∀ k a, rs.reverse[k]? = some a → k ∈ p ∨ Apart E a r
  | [], _, _, k, a, ha => by simp at ha
  | b :: l, hrs, h, k, a, ha => by
    have e : indepAll E r p (b :: l) = (Bool.rec (Bool.rec false (indepAll E r p l) (indep E b r)) (indepAll E r p l) (memN (lenR l) p) : Bool) := rfl
    rw [e] at h
    have hl : indepAll E r p l = true := by
      revert h; cases memN (lenR l) p <;> cases indep E b r <;> simp
    rw [List.reverse_cons] at ha
    by_cases hk : k < l.length
    · rw [List.getElem?_append_left (by simpa using hk)] at ha
      exact indepAll_spec hr (fun a ha => hrs a (List.mem_cons_of_mem _ ha)) hl k a ha
    · rw [List.getElem?_append_right (by simpa using hk)] at ha
      have hk2 : k = l.length := by
        by_cases h2 : k - l.reverse.length = 0
        · rw [List.length_reverse] at h2; omega
        · rw [List.getElem?_eq_none (by simp; rw [List.length_reverse] at h2; omega)] at ha; cases ha
      have hab : b = a := by
        rw [hk2] at ha; simpa using ha
      subst hab
      rw [lenR_eq, ← hk2] at h
      cases hm : memN k p with
      | true => exact .inl (memN_iff.1 hm)
      | false =>
        rw [hm] at h
        cases hi : indep E b r with
        | true => exact .inr (indep_spec (hrs b (by simp)) hr hi)
        | false => rw [hi] at h; cases h

theorem drawOn_ok {E : Env} {N : Nat} {preds : List (List Nat)} {o : Oper} {next : St → List Rec → Ans St} {st st' : St} {rs : List Rec} {uses F W : List Nat} {ins : Option (TypeId × Value)} {v : Value} {h2 : Tr RO} {m : Nat}
    (hW : ∀ i ∈ W, i ∈ F) (hrs : ∀ a ∈ rs, ∀ i ∈ a.W, i ∈ a.F) (h : drawOn E N preds o next st rs uses F W ins v h2 m = .ok st') :
    ∃ σ p, putT N st.σ o.dst v = some σ ∧ nth preds rs.length = some p ∧ st.n ≤ m ∧ m < big ∧ (∀ x ∈ F, x < st.n) ∧ (∀ k a, rs.reverse[k]? = some a → k ∈ p ∨ Apart E a ⟨uses, o.dst, F, W, ins, st.n, m⟩) ∧ (∀ k ∈ p, k < rs.length) ∧
      next ⟨σ, overN (overL st.h h2 F) h2 st.n (m - st.n), m⟩ (⟨uses, o.dst, F, W, ins, st.n, m⟩ :: rs) = .ok st' := by
  unfold drawOn at h
  split at h
  · rename_i σ p h1 h2 h3
    rw [lenR_eq] at h2
    rw [Bool.and_eq_true, Bool.and_eq_true, ble_iff, blt_iff, decide_eq_true_eq, decide_eq_true_eq, allLt_iff] at h3
    split at h
    · rename_i h4
      rw [Bool.and_eq_true, allLt_iff, lenR_eq] at h4
      exact ⟨σ, p, h1, h2, h3.1.1, h3.1.2, h3.2, indepAll_spec (r := ⟨uses, o.dst, F, W, ins, st.n, m⟩) hW hrs h4.1, h4.2, h⟩
    · cases h
  · cases h

theorem drawOn_next {E : Env} {N : Nat} {preds : List (List Nat)} {o : Oper} {next : St → List Rec → Ans St} {st st' : St} {rs : List Rec} {uses F W : List Nat} {ins : Option (TypeId × Value)} {v : Value} {h2 : Tr RO} {m : Nat}
    (h : drawOn E N preds o next st rs uses F W ins v h2 m = .ok st') : st.n ≤ m ∧ ∃ σ h3 rs', next ⟨σ, h3, m⟩ rs' = .ok st' := by
  unfold drawOn at h
  split at h
  · rename_i σ p h1 h2 h3
    rw [Bool.and_eq_true, Bool.and_eq_true, ble_iff, blt_iff, decide_eq_true_eq, decide_eq_true_eq, allLt_iff] at h3
    split at h
    · exact ⟨h3.1.1, σ, _, _, h⟩
    · cases h
  · cases h

theorem drawOp_ok {E : Env} (ok : EnvOK E) {call : CallT} (hc : CallOK E call) {N : Nat} {ops : Array Oper} {preds : List (List Nat)} {j : Nat} {o : Oper} {next : St → List Rec → Ans St} {st st' : St} {rs : List Rec}
    (ho : ops[j]? = some o) (h : drawOp E call N ops.toList preds o next st rs = .ok st') :
    ∃ F W ins v h2 m, drawOn E N preds o next st rs (usesOf ops.toList o) F W ins v h2 m = .ok st' ∧ (∀ i ∈ W, i ∈ F) ∧ (∀ x ∈ usesOf ops.toList o, x < big) ∧
      ((ins = none ∧ ((∀ x ∈ F, x < big) → LocalOK E N ops j o (tmp st.σ) (usesOf ops.toList o) (only F (getR st.h)) st.n m v (getR h2) ∧ ∀ i ∈ F, i ∉ W → getR h2 i = getR st.h i)) ∨
       (∃ r kt k u es, ins = some (kt, k) ∧ F = [r] ∧ W = [r] ∧ m = st.n ∧ r < big ∧ h2 = putR .e r (some (.pmap (es ++ [⟨k, u, 0⟩]))) ∧ entAt (getR st.h r) = some es ∧ (∀ e2 ∈ es, eqIn E kt k e2.key = some false) ∧
         ∀ ob es, entOf ob = some es → (∀ e2 ∈ es, eqIn E kt k e2.key = some false) → LocalOK E N ops j o (tmp st.σ) (usesOf ops.toList o) (alone r (some ob)) st.n st.n v (alone r (some (.pmap (es ++ [⟨k, u, 0⟩])))))) := by
  unfold drawOp at h
  split at h
  · cases h
  rename_i hu
  rw [Bool.and_eq_true, allLt_iff] at hu
  obtain ⟨hu, hd⟩ := hu
  have hu' : ∀ x ∈ usesOf ops.toList o, x < big := fun x hx => by have := hu x hx; unfold big; omega
  have pick : ∀ F : List Nat, (∀ x ∈ F, x < big) → getR (pickH st.h F) = only F (getR st.h) := by
    intro F hF
    funext i
    rw [pickH_get hF]; rfl
  split at h
  · rename_i hw
    split at h
    · rename_i r kt k u hi
      unfold drawIns at h
      split at h
      · rename_i es hes hbig
        rw [blt_iff, decide_eq_true_eq] at hbig
        split at h
        · rename_i hno
          rw [noneOf_iff] at hno
          exact ⟨_, _, _, _, _, _, h, fun i hi => hi, hu', .inr ⟨r, kt, k, u, es, rfl, rfl, rfl, rfl, hbig, rfl, hes, hno, fun ob es2 h1 h2 => local_ins ok ho hu' hw hi ob es2 h1 h2⟩⟩
        · cases h
      · cases h
    · unfold drawVal at h
      split at h
      · rename_i v h2 m he
        refine ⟨_, _, _, v, h2, m, h, ?_, hu', .inl ⟨rfl, fun hF => ⟨?_, ?_⟩⟩⟩
        · split
          · intro i hi; cases hi
          · exact fun i hi => hi
        · rw [← pick _ hF]; exact local_val ok ho hd hu' hw he
        · intro i hi hn
          split at hn
          · rename_i hr
            obtain ⟨v', e⟩ := reads_h hr he
            injection e with _ e _
            subst e
            show getR (pickH st.h _) i = _
            rw [pickH_get hF, if_pos hi]
          · exact absurd hi hn
      · rename_i f args he
        split at h
        · rename_i v h2 m hcall
          refine ⟨_, _, _, v, h2, m, h, fun i hi => changedL_sub hi, hu', .inl ⟨rfl, fun hF => ⟨?_, fun i hi hn => (changedL_not hi hn).symm⟩⟩⟩
          rw [← pick _ hF]; exact local_ent ok hc ho hd hu' hw he hcall
        · cases h
      · cases h
  · rename_i hw
    refine ⟨_, _, _, _, _, _, h, fun i hi => hi, hu', .inl ⟨rfl, fun _ => ⟨?_, fun i hi => by cases hi⟩⟩⟩
    have e1 : only [] (getR st.h) = fun _ => none := by funext i; simp [only]
    have e2 : getR (.e : Tr RO) = fun _ => none := by funext i; exact getR_e i
    rw [e1, e2]
    exact local_skip ho hu' hw

end Go.Ev
end

section
/- A ground evaluator for closed calls, part Z: the law of a region that draws its order. -/
namespace Go.Ev
open Go.RowKit

theorem drawOps_cons (E : Env) (call : CallT) (N : Nat) (all : List Oper) (preds : List (List Nat)) (o : Oper) (l : List Oper) (st : St) (rs : List Rec) :
    drawOps E call N all preds (o :: l) st rs = drawOp E call N all preds o (drawOps E call N all preds l) st rs := rfl

theorem putT_sig {N : Nat} (hN : N ≤ 1000000) {σ σ' : Tr Value} {dst : Option Tmp} {v : Value} (h : putT N σ dst v = some σ') : (∀ d, dst = some d → d < N) ∧ ∀ t, tmp σ' t = if dst = some t then v else tmp σ t := by
  unfold putT at h
  split at h
  · injection h with h; subst h; exact ⟨fun d e => (by cases e), fun t => (by simp)⟩
  · rename_i d
    rw [cond_eq_ite, blt_iff] at h
    split at h
    · rename_i hd
      rw [decide_eq_true_eq] at hd
      injection h with h; subst h
      refine ⟨fun d' e => (by injection e with e; subst e; exact hd), fun t => ?_⟩
      rw [tmp_putR (by unfold big; omega)]
      by_cases ht : t = d
      · subst ht; simp
      · rw [if_neg ht, if_neg (fun e => ht (by injection e with e; exact e.symm))]
    · cases h

theorem SpecAt.snoc {E : Env} {N : Nat} {ops : Array Oper} {h0 : Mem} {σ0 : Nat → Value} {n0 : Nat} {its : List It} {j : Nat} {x y : It} (hj : j < its.length) (k : SpecAt E N ops h0 σ0 n0 its j x) : SpecAt E N ops h0 σ0 n0 (its ++ [y]) j x := by
  have e : (its ++ [y]).take j = its.take j := List.take_append_of_le_length (by omega)
  refine ⟨k.op, k.lo, k.le, k.preds, k.below, k.foot, k.wr, k.dst, k.dlt, k.lnk, fun q z hq hz => k.apart q z hq (by rw [List.getElem?_append_left (by omega)] at hz; exact hz), by rw [e]; exact k.keep, by rw [e]; exact k.run, fun en hen => ?_⟩
  obtain ⟨r, kt, A⟩ := k.ins en hen
  exact ⟨r, kt, A.F, A.W, A.key, A.m, by rw [e]; exact A.clear, by rw [e]; exact A.run⟩

theorem drawOps_spec {E : Env} (ok : EnvOK E) {call : CallT} (hc : CallOK E call) {N : Nat} (hN : N ≤ 1000000) {ops : Array Oper} {h0 : Mem} {σ0 : Nat → Value} {n0 : Nat} :
    ∀ (l : List Oper) (st st' : St) (its : List It), ops.toList.drop its.length = l → its.length ≤ ops.size → drawOps E call N ops.toList (predsOf ops.toList []) l st (its.map (·.r)).reverse = .ok st' →
      (∀ j x, its[j]? = some x → SpecAt E N ops h0 σ0 n0 its j x ∧ x.r.m ≤ st.n) → n0 ≤ st.n → getR st.h = memL (fun _ => true) its h0 → tmp st.σ = sigL (fun _ => true) its σ0 →
      ∃ its', its'.length = ops.size ∧ (∀ j x, its'[j]? = some x → SpecAt E N ops h0 σ0 n0 its' j x ∧ x.r.m ≤ st'.n) ∧ n0 ≤ st'.n ∧ getR st'.h = memL (fun _ => true) its' h0 ∧ tmp st'.σ = sigL (fun _ => true) its' σ0
  | [], st, st', its, hd, hle, h, hs, h1, h2, h3 => by
    injection h with h; subst h
    refine ⟨its, ?_, hs, h1, h2, h3⟩
    have := congrArg List.length hd
    simp at this; omega
  | o :: l, st, st', its, hd, hle, h, hs, h1, h2, h3 => by
    have hlt : its.length < ops.size := by
      have := congrArg List.length hd
      simp at this; omega
    have ho : ops[its.length]? = some o := by
      have := congrArg (fun x => x[0]?) hd
      simpa using this
    have hd' : ops.toList.drop (its.length + 1) = l := by
      have := congrArg List.tail hd
      simpa using this
    rw [drawOps_cons] at h
    obtain ⟨F, W, ins, v, hp, m, hon, hWF, hu, hcases⟩ := drawOp_ok ok hc ho h
    have hrs : ∀ a ∈ (its.map (·.r)).reverse, ∀ i ∈ a.W, i ∈ a.F := by
      intro a ha
      rw [List.mem_reverse, List.mem_map] at ha
      obtain ⟨x, hx, rfl⟩ := ha
      obtain ⟨j, hj, hjx⟩ := List.getElem_of_mem hx
      exact (hs j x (by rw [List.getElem?_eq_getElem hj, hjx])).1.wr
    obtain ⟨σ, p, a1, a2, a3, a4, a5, a6, a7, a8⟩ := drawOn_ok hWF hrs hon
    have hFbig : ∀ x ∈ F, x < big := fun x hx => by have := a5 x hx; omega
    obtain ⟨hdN, hσ⟩ := putT_sig hN a1
    have hlen : ((its.map (·.r)).reverse).length = its.length := by simp
    rw [hlen] at a2 a7
    rw [List.reverse_reverse] at a6
    -- the entry that it puts into a map, if it does
    have hent : ∃ en : Option MapEntry, (∀ q, ins = some q → ∃ e, en = some e ∧ e.key = q.2) ∧
        (en = none → LocalOK E N ops its.length o (tmp st.σ) (usesOf ops.toList o) (only F (getR st.h)) st.n m v (getR hp) ∧ ∀ i ∈ F, i ∉ W → getR hp i = getR st.h i) ∧
        (∀ e, en = some e → ∃ r kt es, ins = some (kt, e.key) ∧ F = [r] ∧ W = [r] ∧ m = st.n ∧ getR hp r = some (.pmap (es ++ [e])) ∧ entAt (getR st.h r) = some es ∧ (∀ e2 ∈ es, eqIn E kt e.key e2.key = some false) ∧
          ∀ ob es, entOf ob = some es → (∀ e2 ∈ es, eqIn E kt e.key e2.key = some false) → LocalOK E N ops its.length o (tmp st.σ) (usesOf ops.toList o) (alone r (some ob)) st.n st.n v (alone r (some (.pmap (es ++ [e]))))) := by
      rcases hcases with ⟨h1, h2⟩ | ⟨r, kt, k, u, es, h1, h2, h3, h4, h5, h6, h7, h8, h9⟩
      · exact ⟨none, fun q hq => by (rw [h1] at hq; cases hq), fun _ => h2 hFbig, fun e he => by cases he⟩
      · refine ⟨some ⟨k, u, 0⟩, fun q hq => ⟨_, rfl, ?_⟩, fun e => (by cases e), fun e he => ?_⟩
        · rw [h1] at hq; injection hq with hq; rw [← hq]
        · injection he with he; subst he
          refine ⟨r, kt, es, h1, h2, h3, h4, ?_, h7, h8, h9⟩
          rw [h6, getR_putR _ _ _ h5, if_pos rfl]
    obtain ⟨en, en1, en2, en3⟩ := hent
    let x : It := ⟨o, ⟨usesOf ops.toList o, o.dst, F, W, ins, st.n, m⟩, p, v, getR hp, en⟩
    have hrev : ((its ++ [x]).map (·.r)).reverse = ⟨usesOf ops.toList o, o.dst, F, W, ins, st.n, m⟩ :: (its.map (·.r)).reverse := by simp [x]
    have htake : (its ++ [x]).take its.length = its := by simp
    have hmerge : getR (overN (overL st.h hp F) hp st.n (m - st.n)) = memL (fun _ => true) (its ++ [x]) h0 := by
      funext i
      show _ = foldL TM GM _ 0 (its ++ [x]) h0 i
      rw [fold_snoc, Bool.true_and, overN_get (by omega), overL_get (fun y hy => by have := a5 y hy; omega)]
      have e : st.n + (m - st.n) = m := by omega
      rw [e]
      have hT : TM x i = true ↔ i ∈ W ∨ (st.n ≤ i ∧ i < m) := TM_iff
      by_cases ht : TM x i = true
      · rw [if_pos ht]
        have e2 := congrFun h2 i
        have e3 : GM x i (foldL TM GM (fun _ => true) 0 its h0 i) = getR hp i := by
          cases hen : en with
          | none =>
            show (match x.ins with | none => x.post i | some e => insO e _) = _
            have : x.ins = none := hen
            rw [this]
          | some e =>
            obtain ⟨r, kt, es, g1, g2, g3, g4, g5, g6, _⟩ := en3 e hen
            have hir : i = r := by
              rcases hT.1 ht with h | h
              · rw [g3] at h; exact List.mem_singleton.1 h
              · omega
            subst hir
            show (match x.ins with | none => x.post i | some e => insO e (memL (fun _ => true) its h0 i)) = _
            have : x.ins = some e := hen
            rw [this, ← h2, g5]
            exact insO_some g6
        rw [e3]
        rcases hT.1 ht with h | h
        · by_cases h2 : st.n ≤ i ∧ i < m
          · rw [if_pos h2]
          · rw [if_neg h2, if_pos (hWF i h)]
        · rw [if_pos h]
      · rw [if_neg ht]
        have h1 : i ∉ W := fun h => ht (hT.2 (.inl h))
        have h2' : ¬ (st.n ≤ i ∧ i < m) := fun h => ht (hT.2 (.inr h))
        have e2 := congrFun h2 i
        rw [if_neg h2']
        refine Eq.trans ?_ e2
        by_cases h3 : i ∈ F
        · rw [if_pos h3]
          cases hen : en with
          | none => exact (en2 hen).2 i h3 h1
          | some e =>
            obtain ⟨r, kt, es, g1, g2, g3, _⟩ := en3 e hen
            rw [g3] at h1; rw [g2] at h3; exact absurd h3 h1
        · rw [if_neg h3]
    have hsig : tmp σ = sigL (fun _ => true) (its ++ [x]) σ0 := by
      funext t
      show _ = foldL TS GS _ 0 (its ++ [x]) σ0 t
      rw [fold_snoc, Bool.true_and, hσ]
      by_cases ht : TS x t = true
      · rw [if_pos ht, if_pos (TS_iff.1 ht)]; rfl
      · rw [if_neg ht, if_neg (fun h => ht (TS_iff.2 h)), h3]
    have key := drawOps_spec ok hc hN (h0 := h0) (σ0 := σ0) (n0 := n0) l ⟨σ, overN (overL st.h hp F) hp st.n (m - st.n), m⟩ st' (its ++ [x]) (by rw [List.length_append]; exact hd') (by simp; omega)
      (by rw [hrev]; exact a8) ?_ (by show n0 ≤ m; omega) hmerge hsig
    · exact key
    · intro j y hy
      by_cases hj : j < its.length
      · rw [List.getElem?_append_left hj] at hy
        obtain ⟨s1, s2⟩ := hs j y hy
        exact ⟨s1.snoc hj, Nat.le_trans s2 a3⟩
      · have hj2 : j = its.length := by
          by_cases h2 : j < (its ++ [x]).length
          · simp at h2; omega
          · rw [List.getElem?_eq_none (by omega)] at hy; cases hy
        subst hj2
        have hyx : y = x := by
          rw [List.getElem?_append_right (Nat.le_refl _)] at hy
          simpa using hy.symm
        subst hyx
        refine ⟨⟨ho, h1, a3, a2, a7, a5, hWF, rfl, hdN, en1, ?_, ?_, ?_, ?_⟩, Nat.le_refl _⟩
        · intro q z hq hz
          rw [List.getElem?_append_left hq] at hz
          exact ⟨(hs q z hz).2, a6 q z.r (by rw [List.getElem?_map, hz]; rfl)⟩
        · rw [htake]
          intro hen i hi hn
          rw [← h2]; exact (en2 hen).2 i hi hn
        · rw [htake, ← h2, ← h3]; exact fun hen => (en2 hen).1
        · intro e hen
          obtain ⟨r, kt, es, g1, g2, g3, g4, g5, g6, g7, g8⟩ := en3 e hen
          refine ⟨r, kt, g2, g3, g1, g4, ?_, ?_⟩
          · rw [htake, ← h2]; exact ⟨es, g6, g7⟩
          · rw [htake, ← h3]; exact g8

theorem drawOps_mono {E : Env} (ok : EnvOK E) {call : CallT} (hc : CallOK E call) {N : Nat} {ops : Array Oper} {preds : List (List Nat)} : ∀ {l : List Oper} {i : Nat} {st st' : St} {rs : List Rec}, ops.toList.drop i = l →
    drawOps E call N ops.toList preds l st rs = .ok st' → st.n ≤ st'.n
  | [], _, st, st', rs, _, h => by injection h with h; subst h; exact Nat.le_refl _
  | o :: l, i, st, st', rs, hd, h => by
    have ho : ops[i]? = some o := by
      have := congrArg (fun x => x[0]?) hd
      simpa using this
    have hd' : ops.toList.drop (i + 1) = l := by
      have := congrArg List.tail hd
      simpa using this
    rw [drawOps_cons] at h
    obtain ⟨F, W, ins, v, hp, m, hon, _⟩ := drawOp_ok ok hc ho h
    obtain ⟨a3, σ, h3, rs', a8⟩ := drawOn_next hon
    exact Nat.le_trans a3 (drawOps_mono ok hc hd' a8)

theorem drawOps_ok {E : Env} (ok : EnvOK E) (hmix : E.P.follows .mixedOrders = true) {call : CallT} (hc : CallOK E call) {N : Nat} (hN : N ≤ 1000000) {ops : Array Oper} {st st' : St}
    (h : drawOps E call N ops.toList (predsOf ops.toList []) ops.toList st [] = .ok st') {ρ : Ren} {w : World} {tm : Array Value} (hz : tm.size = N) (hb : Base E ρ st.n) (hs : SRel ρ st.σ tm) (hh : HRel ρ (getR st.h) w) (hf : Fresh ρ st.n st'.n)
    {fn : FuncId} {id : Nat} (bf : Frame) (kf : List Item) (cf : List Frame) (hbf : bf.fn = fn) :
    ∃ ρ' w' tm', Goes ρ (getR st.h) st.n w ρ' (getR st'.h) st'.n w' ∧ SRel ρ' st'.σ tm' ∧ tm'.size = N ∧
      Steps E.P (lone (fat bf tm (.code (.region id ops true) :: kf)) cf w) (lone (fat bf tm' kf) cf w') := by
  obtain ⟨its, len, spec, hle, hm, hsg⟩ := drawOps_spec ok hc hN (h0 := getR st.h) (σ0 := tmp st.σ) (n0 := st.n) ops.toList st st' [] rfl (Nat.zero_le _) h (fun j x hx => by simp at hx) (Nat.le_refl _) rfl rfl
  have hl0 : lst (Array.replicate ops.size false) = fun _ => false := by
    funext q
    unfold lst
    simp only [Array.getD_eq_getD_getElem?, Array.getElem?_replicate]
    split <;> rfl
  have em : memL (fun _ => false) its (getR st.h) = getR st.h := by
    funext i; exact fold_none (fun j x _ hl => by cases hl)
  have es : sigL (fun _ => false) its (tmp st.σ) = tmp st.σ := by
    funext i; exact fold_none (fun j x _ hl => by cases hl)
  let w1 : World := { w with drawn := w.drawn + 1 }
  have W : Walk E N (getR st.h) (tmp st.σ) st.n st'.n its ρ w (lst (Array.replicate ops.size false)) ρ w1 tm := by
    rw [hl0]
    refine ⟨?_, ?_, hz, ?_, ?_, ?_⟩
    · rw [em]
      exact ⟨hle, fun _ _ => rfl, ⟨hh.at_, hh.inj⟩, rfl, rfl, rfl, Nat.le_refl _, fun _ _ _ => rfl, fun _ h => .inr h⟩
    · rw [es]; exact hs
    · intro j x hx _ i h1 h2
      obtain ⟨s, hm⟩ := spec j x hx
      have := s.lo
      exact hf i (by omega) (by omega)
    · intro j x _ hl; cases hl
    · intro q hq; cases hq
  have hfree : ∀ n, free (fun _ => false) n = n := by
    intro n
    induction n with
    | zero => rfl
    | succ n ih => unfold free; rw [ih]; rfl
  obtain ⟨L', ρ', w', tm', hall, W', hst⟩ := walk_all hb len spec ops.size (w.tape w.drawn (.order fn id)) (Array.replicate ops.size false) ρ w1 tm (by simp) (by rw [hl0, hfree]; exact Nat.le_refl _) W bf kf cf
  have hin : ∀ {j : Nat} {x : It}, its[j]? = some x → L' (0 + j) = true := by
    intro j x hx
    rw [Nat.zero_add]
    refine hall j ?_
    by_cases hlt : j < its.length
    · omega
    · rw [List.getElem?_eq_none (by omega)] at hx; cases hx
  have em' : memL L' its (getR st.h) = getR st'.h := by
    rw [hm]; funext i
    exact fold_agree (fun j x hx _ => hin hx) rfl
  have es' : sigL L' its (tmp st.σ) = tmp st'.σ := by
    rw [hsg]; funext i
    exact fold_agree (fun j x hx _ => hin hx) rfl
  refine ⟨ρ', w', tm', em' ▸ W'.goes, fun t => es' ▸ W'.sig t, W'.size, ?_⟩
  subst hbf
  refine .head st_region_draw ?_
  have : Region.schedule (E.P.follows .mixedOrders) ops (w.tape w.drawn (.order bf.fn id)) = Region.linearise.go .any ops ops.size (w.tape w.drawn (.order bf.fn id)) (Array.replicate ops.size false) [] := by
    simp only [Region.schedule, hmix, Bool.true_or, if_true]; rfl
  rw [this]
  exact hst

end Go.Ev
end

