/- A ground evaluator for closed calls, part Ra: steps of loops over functions, and of marks. -/
import Derived.Test.YtggcnnpklkmeoaaGreatDoorEN
section
namespace Go.Ev
open Go.RowKit

def markOf (g : Nat) : Deferred := { target := .collected g, args := #[] }

/-- A frame with further marks. -/
def bd (b : Frame) (ds : List Deferred) : Frame := { b with defers := ds ++ b.defers }

theorem bd_nil (b : Frame) : bd b [] = b := rfl
theorem bd_bd (b : Frame) (d1 d2 : List Deferred) : bd (bd b d1) d2 = bd b (d2 ++ d1) := by simp [bd]

section
variable {P : Program} {b : Frame} {tm : Array Value} {k : List Item} {cs : List Frame} {w : World}

theorem run_takeDeferred {g : Nat} (h : w.heap[g]? = some (.deferred (some []))) : (Instr.takeDeferred g).run P w = .ok [] { w with heap := w.heap.setIfInBounds g (.deferred none) } := by
  unfold Instr.takeDeferred
  rw [Sem.run_bind, run_getObj h (by intro c T fr e; cases e), Result.andThen_ok]
  dsimp only
  rw [Sem.run_bind, run_setObj h (by intro c T fr e; cases e), Result.andThen_ok]
  rfl

theorem st_take {fr : Frame} {g : Nat} {ds : List Deferred} (hm : fr.mode = .returning) (hd : fr.defers = markOf g :: ds) (h : w.heap[g]? = some (.deferred (some []))) :
    step P (lone fr cs w) = .next (lone { fr with defers := ds } cs { w with heap := w.heap.setIfInBounds g (.deferred none) }) := by
  refine step_lone_go ?_
  have hr := run_takeDeferred (P := P) h
  simp only [stepG, hm, unwind, hd, markOf]
  simp [hr]

theorem run_getLoop {g : Nat} {r : Loop} (h : w.heap[g]? = some (.loop r)) : (Instr.getLoop g).run P w = .ok r w := by
  unfold Instr.getLoop
  rw [Sem.run_bind, run_getObj h (by intro c T fr e; cases e), Result.andThen_ok]
  rfl

theorem run_setLoop {g : Nat} {r r' : Loop} (h : w.heap[g]? = some (.loop r)) : (setObj g (.loop r')).run P w = .ok () { w with heap := w.heap.setIfInBounds g (.loop r') } :=
  run_setObj h (by intro c T fr e; cases e)

theorem st_beginRound {g : Nat} {r : Loop} (hr : b.roundOf = some g) (h : w.heap[g]? = some (.loop r)) (hs : r.state = .ready) :
    step P (lone (fat b tm (.beginRound :: k)) cs w) = .next (lone (fat b tm k) cs { w with heap := w.heap.setIfInBounds g (.loop { r with state := .busy }) }) := by
  refine step_lone_go ?_
  have h1 := run_getLoop (P := P) h
  have h2 := run_setLoop (P := P) (r' := { r with state := .busy }) h
  have hb : (Instr.beginRound g).run P w = .ok () { w with heap := w.heap.setIfInBounds g (.loop { r with state := .busy }) } := by
    unfold Instr.beginRound
    rw [Sem.run_bind, h1, Result.andThen_ok, Sem.run_bind, h2, Result.andThen_ok, hs]
    rfl
  simp [stepG, stepG.exec, stepG.apply, fat, hr, hb, Frame.finish]

theorem run_endRound {g : Nat} {r : Loop} (jump : Option Code) (h : w.heap[g]? = some (.loop r)) :
    (Instr.endRound g jump).run P w = .ok (.bool jump.isNone) { w with heap := w.heap.setIfInBounds g (.loop { r with state := if jump.isNone then .ready else .done, pending := jump }) } := by
  unfold Instr.endRound
  rw [Sem.run_bind, run_getLoop h, Result.andThen_ok, Sem.run_bind, run_setLoop h, Result.andThen_ok]
  rfl

theorem st_end_round {g : Nat} {r : Loop} {c : Frame} (hr : b.roundOf = some g) (hk : b.kind = .normal) (h : w.heap[g]? = some (.loop r)) :
    step P (lone (fat b tm []) (c :: cs) w) = .next (lone (c.finish (.bool true)) cs { w with heap := w.heap.setIfInBounds g (.loop { r with state := .ready, pending := none }) }) := by
  refine step_lone_go ?_
  have h1 := run_endRound (P := P) none h
  simp only [Option.isNone_none, if_true] at h1
  simp [stepG, stepG.exec, fat, hr, h1, doReturn, hk]

theorem st_ret_round {g : Nat} {r : Loop} {c : Frame} (hr : b.roundOf = some g) (hk : b.kind = .normal) (h : w.heap[g]? = some (.loop r)) :
    step P (lone (fat b tm (.code .ret :: k)) (c :: cs) w) = .next (lone (c.finish (.bool false)) cs { w with heap := w.heap.setIfInBounds g (.loop { r with state := .done, pending := some .ret }) }) := by
  refine step_lone_go ?_
  have h1 := run_endRound (P := P) (some .ret) h
  simp only [Option.isNone_some, Bool.false_eq_true, if_false] at h1
  simp [stepG, stepG.exec, fat, hr, h1, doReturn, hk]

theorem st_exit_round {g id : Nat} {r : Loop} {c : Frame} (hr : b.roundOf = some g) (hk : b.kind = .normal) (hx : exitTo id k = none) (h : w.heap[g]? = some (.loop r)) :
    step P (lone (fat b tm (.code (.exit id) :: k)) (c :: cs) w) = .next (lone (c.finish (.bool false)) cs { w with heap := w.heap.setIfInBounds g (.loop { r with state := .done, pending := some (.exit id) }) }) := by
  refine step_lone_go ?_
  have h1 := run_endRound (P := P) (some (.exit id)) h
  simp only [Option.isNone_some, Bool.false_eq_true, if_false] at h1
  simp [stepG, stepG.exec, fat, hr, h1, doReturn, hk, hx]

/-- The loop and the marks that a loop over a function begins with. -/
def newLoop (fn : FuncId) (tm : Array Value) (ps : Array Tmp) (a c : Code) (d : Nat) : Loop := { state := .ready, pending := none, fn, tmps := tm, params := ps, assign := a, body := c, defers := d }

theorem run_enterLoop_new {fn : FuncId} {ps : Array Tmp} {a c : Code} : (Instr.enterLoop fn tm ps a c none).run P w =
    .ok (w.heap.size + 1, [markOf w.heap.size]) { w with heap := (w.heap.push (.deferred (some []))).push (.loop (newLoop fn tm ps a c w.heap.size)) } := by
  unfold Instr.enterLoop
  simp [newObj, Sem.run, markOf, newLoop]
  rfl

theorem run_enterLoop_in {fn : FuncId} {ps : Array Tmp} {a c : Code} {g : Nat} {r : Loop} (h : w.heap[g]? = some (.loop r)) : (Instr.enterLoop fn tm ps a c (some g)).run P w =
    .ok (w.heap.size, []) { w with heap := w.heap.push (.loop (newLoop fn tm ps a c r.defers)) } := by
  unfold Instr.enterLoop
  have h1 := run_getLoop (P := P) h
  simp [newObj, h1, Sem.run, newLoop]

theorem st_rangeFunc {f : Operand} {ps : Array Tmp} {a c : Code} {l : Nat} {mk : List Deferred} {g : FuncId} {args : Array Value} {w1 : World}
    (he : (Instr.enterLoop b.fn tm ps a c b.roundOf).run P w = .ok (l, mk) w1)
    (hc : (do let d ← resolve (evalT tm) { callee := .value f, args := #[.const (.func (.yield l) #[] #[])], argTypes := #[] } 0; invoke d.target d.args : Sem Next).run P w1 = .ok (.enter g args) w1) :
    step P (lone (fat b tm (.code (.rangeFunc f ps a c) :: k)) cs w) = .next (lone (Frame.enter P g args .normal) (fat (bd b mk) tm (.inRangeFunc l :: k) :: cs) w1) := by
  refine step_lone_go ?_
  have e := eval_fat (bd b mk) tm (.inRangeFunc l :: k)
  simp only [fat, bd] at e
  simp [stepG, stepG.exec, stepG.apply, fat, he, e, hc, bd]

theorem finish_rangeFunc (l : Nat) (v : Value) : (fat b tm (.inRangeFunc l :: k)).finish v = fat b tm (.endRangeFunc l :: k) := rfl

theorem st_endRangeFunc {l : Nat} {r : Loop} (h : w.heap[l]? = some (.loop r)) (hb : r.state ≠ .busy) :
    step P (lone (fat b tm (.endRangeFunc l :: k)) cs w) = .next (lone (fat b tm ((r.pending.map Item.code).toList ++ k)) cs { w with heap := w.heap.setIfInBounds l (.loop { r with state := .exhausted }) }) := by
  refine step_lone_go ?_
  have h1 : (Instr.endLoop l).run P w = .ok r.pending { w with heap := w.heap.setIfInBounds l (.loop { r with state := .exhausted }) } := by
    unfold Instr.endLoop
    rw [Sem.run_bind, run_getLoop h, Result.andThen_ok]
    have : (r.state == .busy) = false := by simpa using hb
    simp only [this, Bool.false_eq_true, if_false, Sem.run_bind, run_setLoop h, Result.andThen_ok]
    rfl
  simp [stepG, stepG.exec, fat, h1]

end
end Go.Ev
end

section
/- A ground evaluator for closed calls, part R: code, calls, and the law. -/
namespace Go.Ev
open Go.RowKit

/-- Where code comes to. -/
def Arr (P : Program) (x : X) (b : Frame) (tm' : Array Value) (k : List Item) (cs : List Frame) (m : Machine) (w' : World) : Prop :=
  match x with
  | .normal => Steps P m (lone (fat b tm' k) cs w')
  | .exit id => ∃ t', exitTo id t' = exitTo id k ∧ Steps P m (lone (fat b tm' (.code (.exit id) :: t')) cs w')
  | .ret => ∃ t', Steps P m (lone (fat b tm' (.code .ret :: t')) cs w')

theorem Arr.of_steps {P : Program} {x : X} {b : Frame} {tm' : Array Value} {k : List Item} {cs : List Frame} {m m1 : Machine} {w' : World} (h : Steps P m m1) (a : Arr P x b tm' k cs m1 w') : Arr P x b tm' k cs m w' := by
  cases x with
  | normal => exact h.trans a
  | exit id => obtain ⟨t', e, s⟩ := a; exact ⟨t', e, h.trans s⟩
  | ret => obtain ⟨t', s⟩ := a; exact ⟨t', h.trans s⟩

/-- The true marks of named blocks. -/
inductive Marks (ρ : Ren) : List Nat → List Deferred → Prop
  | nil : Marks ρ [] []
  | cons {i : Nat} {l : Loc} {is : List Nat} {ds : List Deferred} (h : ρ i = some l) (hs : Marks ρ is ds) : Marks ρ (i :: is) (markOf l.g :: ds)

theorem Marks.mono {ρ ρ' : Ren} (g : Grows ρ ρ') : ∀ {is : List Nat} {ds : List Deferred}, Marks ρ is ds → Marks ρ' is ds
  | _, _, .nil => .nil
  | _, _, .cons h hs => .cons (g _ _ h) (hs.mono g)

theorem Marks.append {ρ : Ren} {b : List Nat} {e : List Deferred} (k : Marks ρ b e) : ∀ {a : List Nat} {d : List Deferred}, Marks ρ a d → Marks ρ (a ++ b) (d ++ e)
  | _, _, .nil => k
  | _, _, .cons h hs => .cons h (Marks.append k hs)

/-- The loop whose round a frame is. -/
def InRound (ρ : Ren) (rd ro : Option Nat) : Prop :=
  match rd, ro with
  | none, none => True
  | some i, some g => ∃ l, ρ i = some l ∧ l.g = g
  | _, _ => False

theorem InRound.mono {ρ ρ' : Ren} (g : Grows ρ ρ') {rd ro : Option Nat} (h : InRound ρ rd ro) : InRound ρ' rd ro := by
  cases rd <;> cases ro <;> first | exact h | (obtain ⟨l, a, b⟩ := h; exact ⟨l, g _ _ a, b⟩)

/-- What evaluated code stands for: one of the ways is the true one. -/
def CodeOK (E : Env) (code : CodeT) : Prop :=
  ∀ N rd c st outs, code N rd c st = .ok outs → outs ≠ [] ∧ (∀ o ∈ outs, st.n ≤ o.2.2.n) ∧
    (N ≤ 1000000 → ∀ (nb : Nat) (fi : FuncId) (ro : Option Nat) (ρ : Ren) (w : World) (tm : Array Value), (∀ o ∈ outs, o.2.2.n ≤ nb) → tm.size = N → Base E ρ st.n → SRel ρ st.σ tm → HRel ρ (getR st.h) w → InRound ρ rd ro → Fresh ρ st.n nb → ∀ (bf : Frame) (kf : List Item) (cf : List Frame), bf.fn = fi → bf.roundOf = ro →
      ∃ o ∈ outs, ∃ ρ' w' tm' ds, Goes ρ (getR st.h) st.n w ρ' (getR o.2.2.h) o.2.2.n w' ∧ SRel ρ' o.2.2.σ tm' ∧ tm'.size = N ∧ Marks ρ' o.2.1 ds ∧
        Arr E.P o.1 (bd bf ds) tm' kf cf (lone (fat bf tm (.code c :: kf)) cf w) w')

theorem setArgs_rel {ρ : Ren} : ∀ {vs vs' : List Value} (k : Nat) (σ : Tr Value), VRels ρ vs vs' → k + vs.length ≤ 1000000 →
    ∀ t, tmp (setArgs vs k σ) t = if k ≤ t ∧ t < k + vs.length then vs.getD (t - k) undef else tmp σ t
  | _, _, k, σ, .nil, _, t => by
    show tmp σ t = _
    rw [if_neg (by intro h; have := h.2; simp at this; omega)]
  | v :: vs, _, k, σ, .cons h hs, hl, t => by
    have e : setArgs (v :: vs) k σ = setArgs vs (k + 1) (putR σ k (some v)) := rfl
    simp only [List.length_cons] at hl
    rw [e, setArgs_rel (k + 1) _ hs (by omega) t, tmp_putR (by unfold big; omega)]
    simp only [List.length_cons]
    by_cases h1 : t = k
    · subst h1
      rw [if_neg (by omega), if_pos rfl, if_pos (by omega)]
      simp
    · rw [if_neg h1]
      by_cases h2 : k + 1 ≤ t ∧ t < k + 1 + vs.length
      · rw [if_pos h2, if_pos (by omega)]
        have : t - k = (t - (k + 1)) + 1 := by omega
        rw [this]; simp
      · rw [if_neg h2, if_neg (by omega)]

theorem getD_rel {ρ : Ren} {vs vs' : List Value} (h : VRels ρ vs vs') (i : Nat) : VRel ρ (vs.getD i undef) (vs'.getD i undef) := by
  rw [List.getD_eq_getElem?_getD, List.getD_eq_getElem?_getD]
  cases hi : vs[i]? with
  | some v =>
    obtain ⟨v', h1, h2⟩ := h.get hi
    rw [h1]; exact h2
  | none =>
    have : vs'[i]? = none := by
      rw [List.getElem?_eq_none_iff] at hi ⊢
      rw [← h.length]; exact hi
    rw [this]; exact .tuple .nil

theorem enter_rel {ρ : Ren} {vs vs' : List Value} (h : VRels ρ vs vs') (m : Nat) (hl : vs.length ≤ 1000000) : SRel ρ (setArgs vs 0 .e) ((⟨vs'⟩ : Array Value) ++ Array.replicate m undef) := by
  intro t
  rw [setArgs_rel 0 .e h (by omega) t]
  have e : ((⟨vs'⟩ : Array Value) ++ Array.replicate m undef).getD t undef = vs'.getD t undef := by
    rw [Array.getD_eq_getD_getElem?, Array.getElem?_append, List.getD_eq_getElem?_getD]
    split
    · simp
    · rename_i hn
      have hn' : vs'.length ≤ t := by simpa using hn
      rw [List.getElem?_eq_none hn', Array.getElem?_replicate]
      split <;> rfl
  rw [e]
  by_cases h1 : 0 ≤ t ∧ t < 0 + vs.length
  · rw [if_pos h1]; exact getD_rel h t
  · rw [if_neg h1]
    have : vs'.getD t undef = undef := by
      rw [List.getD_eq_getElem?_getD, List.getElem?_eq_none (by rw [← h.length]; omega)]; rfl
    rw [this]
    have e2 : tmp .e t = undef := rfl
    rw [e2]; exact .tuple .nil

def readResult (tm : Array Value) : ResultVar → Sem Value
  | .tmp t => pure (tm.getD t undef)
  | .cell a t => do loadVar t (← asAddr (tm.getD a undef))

section
variable {E : Env} {ρ : Ren} {st : St} {tm : Array Value} {w : World}

theorem loadAt_run (ok : EnvOK E) (hh : HRel ρ (getR st.h) w) {t : TypeId} {i o : Nat} {u : Value} (hu : loadAt E st.h t i o = some u) {a : Value} (hr : VRel ρ (.pointer (some ⟨i, o, none⟩)) a) :
    ∃ u', (do loadVar t (← asAddr a) : Sem Value).run E.P w = .ok u' w ∧ VRel ρ u u' := by
  unfold loadAt at hu
  split at hu
  · rename_i es c hc
    obtain ⟨l, c', T, fr, h1, h2, h3, h4, h5, h6, h7, h8⟩ := row_read hh hc
    cases hr with
    | ptr hi =>
      rw [h1] at hi; injection hi with hi; subst hi
      unfold partOf at hu
      split at hu
      · rename_i ii hii
        have hT := ok.ti hii
        split at hu
        · rename_i ha
          split at hu
          · rename_i vs hvs
            injection hu with hu; subst hu
            obtain ⟨k1, k2⟩ := cut_rel h8 (by omega) hvs
            refine ⟨.agg ⟨(c'.drop (l.sh + o)).take ii.size⟩, ?_, .agg k1⟩
            simp only [asAddr, loadVar, Sem.run_bind, Sem.run_pure, Result.andThen_ok, hT.isAgg, ha, if_true, hT.sizeOf, load_cells h3 k2]
          · cases hu
        · rename_i ha
          obtain ⟨r', k1, k2⟩ := nth_rel h8 hu
          refine ⟨r', ?_, k2⟩
          simp [asAddr, loadVar, hT.isAgg, ha, cell_at h3, k1]
      · cases hu
  · cases hu

theorem results_run (ok : EnvOK E) (hs : SRel ρ st.σ tm) (hh : HRel ρ (getR st.h) w) : ∀ {rs : List ResultVar} {vs : List Value}, resultsOf E st.σ st.h rs = some vs →
    ∃ vs', (rs.mapM (readResult tm) : Sem (List Value)).run E.P w = .ok vs' w ∧ VRels ρ vs vs'
  | [], vs, h => by injection h with h; subst h; exact ⟨[], rfl, .nil⟩
  | r :: rs, vs, h => by
    have h' : cons2 (resultOf E st.σ st.h r) (resultsOf E st.σ st.h rs) = some vs := h
    cases hr : resultOf E st.σ st.h r with
    | none => rw [hr] at h'; cases h'
    | some v =>
      rw [hr] at h'
      obtain ⟨l, hl, rfl⟩ := consO_some h'
      obtain ⟨vs', q1, q2⟩ := results_run ok hs hh hl
      have hone : ∃ v', (readResult tm r).run E.P w = .ok v' w ∧ VRel ρ v v' := by
        unfold resultOf at hr
        split at hr
        · rename_i t; injection hr with hr; subst hr; exact ⟨_, rfl, hs t⟩
        · rename_i a t
          split at hr
          · rename_i i o ha
            have hra := hs a
            rw [ha] at hra
            exact loadAt_run ok hh hr hra
          · cases hr
      obtain ⟨v', p1, p2⟩ := hone
      refine ⟨v' :: vs', ?_, .cons p2 q2⟩
      rw [List.mapM_cons, Sem.run_bind, p1, Result.andThen_ok, Sem.run_bind, q1, Result.andThen_ok]
      rfl

theorem leave_ok (ok : EnvOK E) (hs : SRel ρ st.σ tm) (hh : HRel ρ (getR st.h) w) {fn : Func} {v : Value} {h' : Tr RO} {n' : Nat} (he : leave E fn st = .ok (v, h', n')) :
    h' = st.h ∧ n' = st.n ∧ ∃ v', (results fn tm).run E.P w = .ok v' w ∧ VRel ρ v v' := by
  unfold leave at he
  split at he
  · rename_i vs hvs
    injection he with he
    injection he with e1 e2
    injection e2 with e2 e3
    subst e1; subst e2; subst e3
    obtain ⟨vs', q1, q2⟩ := results_run ok hs hh hvs
    refine ⟨rfl, rfl, tupled vs', ?_, ?_⟩
    · have e : results fn tm = (do let vs ← fn.results.mapM (readResult tm); pure (if h : vs.size = 1 then vs[0] else .tuple vs)) := rfl
      rw [e, Sem.run_bind, Array.mapM_eq_mapM_toList, Sem.run_map, q1, Result.andThen_ok, Result.andThen_ok, Sem.run_pure]
      congr 1
      match vs' with
      | [] => rfl
      | [a] => rfl
      | a :: b :: l => simp [tupled]
    · cases q2 with
      | nil => exact .tuple .nil
      | cons a b =>
        cases b with
        | nil => exact a
        | cons c d => exact .tuple (.cons a (.cons c d))
  · cases he

end


theorem takeMarks_cons (h : Tr RO) (i : Nat) (l : List Nat) : takeMarks h (i :: l) = (match getR h i with
    | some .deferred => bif Nat.blt i big then takeMarks (putR h i none) l else none
    | _ => none) := rfl

/-- Marks are taken at the end of a frame. -/
theorem marks_unwind {P : Program} {n : Nat} : ∀ {is : List Nat} {ds : List Deferred} {ρ : Ren} {h h2 : Tr RO} {w : World}, Marks ρ is ds → takeMarks h is = some h2 → HRel ρ (getR h) w →
    ∃ w2, Goes ρ (getR h) n w ρ (getR h2) n w2 ∧ ∀ (fr : Frame) (rest : List Deferred) cs, fr.mode = .returning → fr.defers = ds ++ rest → Steps P (lone fr cs w) (lone { fr with defers := rest } cs w2)
  | _, _, ρ, h, h2, w, .nil, ht, hh => by
    injection ht with ht; subst ht
    refine ⟨w, Goes.refl hh, fun fr rest cs _ hd => ?_⟩
    have : { fr with defers := rest } = fr := by
      cases fr
      simp only [List.nil_append] at hd
      simp [hd]
    rw [this]; exact .refl _ _
  | _, _, ρ, h, h2, w, .cons (i := i) (l := l) (is := is) (ds := ds) hi hs, ht, hh => by
    rw [takeMarks_cons] at ht
    split at ht
    · rename_i hd
      rw [cond_eq_ite, blt_iff] at ht
      split at ht
      · rename_i hb
        rw [decide_eq_true_eq] at hb
        obtain ⟨l2, o', a1, a2, a3⟩ := hh.at_ i _ hd
        rw [hi] at a1; injection a1 with a1; subst a1
        cases a3
        have hg := goes_drop (n := n) (w' := { w with heap := w.heap.setIfInBounds l.g (.deferred none) }) hh (i := i) (l := l) (by rw [hd]; simp) hi (fun q => getR_putR h i none hb q) ⟨rfl, rfl, rfl, by simp, fun g' hne => by
          show (w.heap.setIfInBounds l.g _)[g']? = _
          rw [Array.getElem?_setIfInBounds, if_neg (fun e => hne e.symm)]⟩
        obtain ⟨w2, g2, s2⟩ := marks_unwind (P := P) (n := n) hs ht hg.rel
        refine ⟨w2, hg.trans g2, fun fr rest cs hm hdf => ?_⟩
        exact .head (st_take hm (by rw [hdf]; rfl) a2) (s2 { fr with defers := ds ++ rest } rest cs hm rfl)
      · cases ht
    · cases ht

theorem leaveX_ok {E : Env} (ok : EnvOK E) {fn : Func} {f : FuncId} (hfun : E.P.funcs[f]? = some fn) {o : X × List Nat × St} {v : Value} {h' : Tr RO} {n' : Nat} (he : leaveX E fn o = .ok (v, h', n'))
    {ρ : Ren} {tm : Array Value} {w : World} {ds : List Deferred} (hs : SRel ρ o.2.2.σ tm) (hh : HRel ρ (getR o.2.2.h) w) (hm : Marks ρ o.2.1 ds) :
    n' = o.2.2.n ∧ ∃ w' v', Goes ρ (getR o.2.2.h) o.2.2.n w ρ (getR h') n' w' ∧ VRel ρ v v' ∧
      ∀ (b : Frame) cs m, b.fn = f → b.roundOf = none → b.kind = .normal → b.defers = [] → Arr E.P o.1 (bd b ds) tm [] cs m w → ∃ fr, Steps E.P m (lone fr cs w') ∧ fr.fn = f ∧ fr.leaving E.P w' (.returned v') := by
  obtain ⟨x, is, st⟩ := o
  have key : ∀ h, takeMarks st.h is = some h → leave E fn ⟨st.σ, h, st.n⟩ = .ok (v, h', n') → (x = .normal ∨ x = .ret) →
      n' = st.n ∧ ∃ w' v', Goes ρ (getR st.h) st.n w ρ (getR h') n' w' ∧ VRel ρ v v' ∧
        ∀ (b : Frame) cs m, b.fn = f → b.roundOf = none → b.kind = .normal → b.defers = [] → Arr E.P x (bd b ds) tm [] cs m w → ∃ fr, Steps E.P m (lone fr cs w') ∧ fr.fn = f ∧ fr.leaving E.P w' (.returned v') := by
    intro h ht hl hx
    obtain ⟨w2, g2, s2⟩ := marks_unwind (P := E.P) (n := st.n) hm ht hh
    obtain ⟨rfl, rfl, v', hr, hv⟩ := leave_ok (st := ⟨st.σ, h, st.n⟩) ok hs g2.rel hl
    refine ⟨rfl, w2, v', g2, hv, fun b cs m hbf hbr hbk hbd harr => ?_⟩
    have hdf : ds ++ b.defers = ds ++ [] := by rw [hbd]
    rcases hx with rfl | rfl
    · have s3 := s2 { fat (bd b ds) tm [] with mode := .returning } [] cs rfl hdf
      exact ⟨_, Steps.trans harr (.head (st_end hbr) s3), hbf, rfl, rfl, hbk, fn, by rw [show ({ fat (bd b ds) tm [] with mode := FrameMode.returning, defers := [] } : Frame).fn = f from hbf]; exact hfun, hr⟩
    · obtain ⟨t', harr⟩ := harr
      have s3 := s2 { fat (bd b ds) tm (.code .ret :: t') with mode := .returning } [] cs rfl hdf
      exact ⟨_, Steps.trans harr (.head (st_ret hbr) s3), hbf, rfl, rfl, hbk, fn, by rw [show ({ fat (bd b ds) tm (.code .ret :: t') with mode := FrameMode.returning, defers := [] } : Frame).fn = f from hbf]; exact hfun, hr⟩
  unfold leaveX at he
  split at he
  · cases he
  · rename_i x' is' st' hne e
    injection e with e1 e2
    injection e2 with e2 e3
    subst e1; subst e2; subst e3
    split at he
    · rename_i h ht
      refine key h ht he ?_
      cases x with
      | normal => exact .inl rfl
      | ret => exact .inr rfl
      | exit id => exact (hne id rfl).elim
    · cases he

theorem leaveX_n {E : Env} {fn : Func} {o : X × List Nat × St} {v : Value} {h' : Tr RO} {n' : Nat} (he : leaveX E fn o = .ok (v, h', n')) : n' = o.2.2.n := by
  unfold leaveX at he
  split at he
  · cases he
  · split at he
    · unfold leave at he
      split at he
      · injection he with e; injection e with _ e; injection e with _ e; exact e.symm
      · cases he
    · cases he

/-- The body of a function, whatever way it goes. -/
theorem body_ok {E : Env} (ok : EnvOK E) {code : CodeT} (hc : CodeOK E code) {f : FuncId} {fn : Func} {c : Code} (hfn : getR E.F f = some fn) (hbody : fn.body = some c) {args : List Value} (h1 : fn.ntmps < 1000000) (h2 : args.length ≤ fn.ntmps)
    {h : Tr RO} {n : Nat} {outs : List (X × List Nat × St)} (he : code fn.ntmps none c ⟨setArgs args 0 .e, h, n⟩ = .ok outs) :
    outs ≠ [] ∧ (∀ o ∈ outs, n ≤ o.2.2.n) ∧ ∀ (nb : Nat) (ρ : Ren) (w : World) (args' : List Value), (∀ o ∈ outs, o.2.2.n ≤ nb) → (∀ o ∈ outs, ∃ r, leaveX E fn o = .ok r) → Base E ρ n → HRel ρ (getR h) w → VRels ρ args args' → Fresh ρ n nb → ∀ (cf : List Frame),
      ∃ o ∈ outs, ∃ v h' n', leaveX E fn o = .ok (v, h', n') ∧ n' = o.2.2.n ∧ ∃ ρ' w' v', Goes ρ (getR h) n w ρ' (getR h') n' w' ∧ VRel ρ' v v' ∧
        ∃ fr, Steps E.P (lone (Frame.enter E.P f ⟨args'⟩ .normal) cf w) (lone fr cf w') ∧ fr.fn = f ∧ fr.leaving E.P w' (.returned v') := by
  obtain ⟨k1, k2, k3⟩ := hc _ _ _ _ _ he
  refine ⟨k1, k2, fun nb ρ w args' hnb hall hb hh hargs hf cf => ?_⟩
  have hfun := (ok.fn _ _ hfn).1
  have hal := hargs.length
  let tm0 : Array Value := (⟨args'⟩ : Array Value) ++ Array.replicate (fn.ntmps - (⟨args'⟩ : Array Value).size) undef
  have hsz : tm0.size = fn.ntmps := by simp [tm0]; omega
  let b0 : Frame := { (default : Frame) with fn := f, kind := .normal }
  obtain ⟨o, ho, ρ', w', tm', ds, g, s, z, mk, arr⟩ := k3 (by omega) nb f none ρ w tm0 hnb hsz hb (enter_rel hargs _ (by omega)) hh trivial hf b0 [] cf rfl rfl
  obtain ⟨⟨v, h', n'⟩, hl⟩ := hall o ho
  obtain ⟨en, w2, v', g2, hv, hfr⟩ := leaveX_ok ok hfun hl s g.rel mk
  refine ⟨o, ho, v, h', n', hl, en, ρ', w2, v', g.trans g2, hv, ?_⟩
  have henter : Frame.enter E.P f ⟨args'⟩ .normal = fat b0 tm0 [.code c] := by
    simp [Frame.enter, fat, hfun, hbody, b0, tm0]
    exact ⟨rfl, rfl⟩
  rw [henter]
  exact hfr b0 cf _ rfl rfl rfl rfl arr

theorem leaving_finish {E : Env} {f : FuncId} {args' : List Value} {w w' : World} {v' : Value}
    {c : Frame} {cs : List Frame} (h : ∃ fr, Steps E.P (lone (Frame.enter E.P f ⟨args'⟩ .normal) (c :: cs) w) (lone fr (c :: cs) w') ∧ fr.fn = f ∧ fr.leaving E.P w' (.returned v')) :
    Steps E.P (lone (Frame.enter E.P f ⟨args'⟩ .normal) (c :: cs) w) (lone (c.finish v') cs w') := by
  obtain ⟨fr, s, _, hl⟩ := h
  exact s.trans (.one (step_leave_returned hl))

end Go.Ev
end

