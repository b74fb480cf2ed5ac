/- A ground evaluator for closed calls, part P: all operations together. -/
import Derived.Test.YtggcnnpklkmeoaaGreatDoorEJ
section
namespace Go.Ev
open Go.RowKit

section
variable {E : Env} {ρ : Ren} {st : St} {tm : Array Value} {w : World} {v : Value} {h' : Tr RO} {n' : Nat}

theorem args_eq (l : Array Operand) : l.map (evalT tm) = ⟨l.toList.map (evalT tm)⟩ := Array.ext' (by simp)

theorem fresh_no {h : Tr RO} {n : Nat} {o : RO} {vf : Nat → Value} {f : Tgt} {args : List Value} (he : fresh h n o vf = some (.ent f args)) : False := by
  unfold fresh at he
  rw [cond_eq_ite] at he
  split at he <;> cases he

theorem callFunc_ext {P : Program} {g : FuncId} {row : Array Value → Sem Value} (hx : XOK P g row) {vs' : List Value} {u' : Value} {w w' : World} (hrow : (row ⟨vs'⟩).run P w = .ok u' w') : (callFunc g ⟨vs'⟩).run P w = .ok (.value u') w' := by
  obtain ⟨fn, x1, x2, x3, x4, x5⟩ := hx
  have hp : (program : Sem Program).run P w = .ok P w := rfl
  have hm : (mark (.extern g)).run P w = .ok () w := rfl
  unfold callFunc
  rw [Sem.run_bind, hp, Result.andThen_ok]
  simp only [x1, x2, x3, x4, x5, Bool.false_eq_true, if_false, Option.isNone_none, if_true, Sem.run_bind, hm, Result.andThen_ok, hrow, Sem.run_pure]

theorem digits_size : ∀ (n t : Nat) (acc : Array Value), (Extern.BytealgMakeNoZero.digits n t acc).size = acc.size + n
  | 0, t, acc => by simp [Extern.BytealgMakeNoZero.digits]
  | n + 1, t, acc => by
    rw [Extern.BytealgMakeNoZero.digits, digits_size n]
    simp; omega

theorem noZero_does (_ok : EnvOK E) (hh : HRel ρ (getR st.h) w) (hf : Fresh ρ st.n n') {g : FuncId} {e : TypeId} {args args' : List Value} (hz : NzOK E.P g e) (ha : VRels ρ args args') (he : noZero e args st = some (.val v h' n')) :
    Does E.P ρ st.h st.n w (callFunc g ⟨args'⟩) v h' n' := by
  unfold noZero at he
  split at he
  · rename_i n
    rw [cond_eq_ite, ble_iff] at he
    split at he
    · rename_i hn
      rw [decide_eq_true_eq] at hn
      cases ha with
      | cons h1 h2 =>
      cases h2
      cases h1
      obtain ⟨params, results, t, hx, hr, hu⟩ := hz
      obtain ⟨hbig, rfl, rfl, rfl⟩ := fresh_parts he
      have hfn : ρ st.n = none := hf st.n (Nat.le_refl _) (Nat.lt_succ_self _)
      let q : Question := .appendCap n 0 e
      let cap := q.cut (w.tape w.drawn q)
      have hcap : n ≤ cap := by simp [cap, q, Question.cut]
      let q2 : Question := .extern "internal/bytealg.MakeNoZero.bytes" 0
      let bytes := q2.cut (w.drew.tape w.drew.drawn q2)
      let cs := Extern.BytealgMakeNoZero.digits cap bytes #[]
      have hcs : cs.toList.length = cap := by
        have := digits_size cap bytes #[]
        simpa [cs] using this
      let l : Loc := ⟨w.heap.size, 0, cap, ⟨1, some e, false⟩⟩
      have hrow : (Extern.BytealgMakeNoZero.makeNoZero params results ⟨[.int .i64 (.ofNat n)]⟩).run E.P w = .ok (.slice (some ⟨w.heap.size, 0, none⟩) n cap) { w.drew.drew with heap := w.heap.push (.cells cs e) } := by
        obtain ⟨rs⟩ := results
        cases rs with
        | nil => cases hr
        | cons t' rs =>
        obtain rfl : t' = t := by simpa using hr
        have e0 : Extern.BytealgMakeNoZero.makeNoZero params ⟨t' :: rs⟩ ⟨[.int .i64 (.ofNat n)]⟩ = (underlying t' >>= _ : Sem Value) := rfl
        have hund : (underlying t').run E.P w = .ok (.slice e) w := by simp [Go.underlying, program, hu, Sem.run]
        have c1 : ((decide ((n : Int) < 0)) || (decide ((n : Int) > 2 ^ 48))) = false := by
          simp only [Bool.or_eq_false_iff, decide_eq_false_iff_not]
          constructor <;> omega
        have hch1 : (choose (.appendCap n 0 e)).run E.P w = .ok cap w.drew := by simp [choose, Sem.run, Question.forced, cap, q]
        have hch2 : (choose (.extern "internal/bytealg.MakeNoZero.bytes" 0)).run E.P w.drew = .ok bytes w.drew.drew := by
          simp [choose, Sem.run, Question.forced, bytes, q2]
          rfl
        rw [e0]
        simp only [Sem.run_bind, hund, Result.andThen_ok, Int.ofNat_eq_natCast, c1, Bool.false_eq_true, if_false, Int.toNat_natCast, hch1, run_askRoom, hch2, run_newRow, Sem.run_pure]
        rfl
      refine ⟨.slice (some ⟨w.heap.size, 0, none⟩) n cap, { w.drew.drew with heap := w.heap.push (.cells cs e) }, more ρ st.n l, .inl (callFunc_ext hx hrow), ?_, ?_⟩
      · exact VRel.slice (l := l) (o := 0) (o' := 0) (more_same ρ st.n l) hcap (by show 0 + cap * 1 ≤ cap; omega) (.inr rfl) (.inl rfl)
      · refine goes_fresh hh hfn l (.cells ⟨1, some e, false⟩ []) (.cells cs e) (fun j => getR_putR st.h st.n _ hbig j) rfl rfl rfl rfl rfl ?_
        have ecs : cs = ⟨cs.toList⟩ := rfl
        rw [ecs]
        exact ORel.cells (l := l) hcs (by show 0 + 0 ≤ cap; omega) rfl (fun k _ => by simp) (by simp; exact .nil) (fun _ h => ⟨by injection h, rfl⟩) (fun h => by cases h)
    · cases he
  · cases he

theorem fnWith_val (ok : EnvOK E) (hh : HRel ρ (getR st.h) w) (hf : Fresh ρ st.n n') {g : FuncId} {args args' : List Value} (ha : VRels ρ args args') (he : fnWith E g args st = some (.val v h' n')) : Does E.P ρ st.h st.n w (callFunc g ⟨args'⟩) v h' n' := by
  unfold fnWith at he
  split at he
  · split at he <;> cases he
  · split at he
    · rename_i hid
      split at he
      · rename_i u
        injection he with he; injection he with e1 e2 e3
        subst e1; subst e2; subst e3
        cases ha with
        | cons k1 k2 =>
        cases k2
        rename_i u'
        exact does_pure hh (v' := u') (callFunc_ext (ok.ident _ _ hid) rfl) k1
      · cases he
    · split at he
      · rename_i row hrow
        rw [cond_eq_ite, flatsR_eq] at he
        split at he
        · rename_i hfl
          split at he
          · rename_i u hu
            rw [cond_eq_ite, flat2R_eq] at he
            split at he
            · rename_i hfu
              injection he with he; injection he with e1 e2 e3
              subst e1; subst e2; subst e3
              have hall2 := VRels.eq_of_flats hfl ha
              subst hall2
              exact does_pure hh (v' := u) (callFunc_ext (ok.ext _ _ hrow) (pureRun_run hu w)) (VRel.of_flat2 hfu)
            · cases he
          · cases he
        · cases he
      · split at he
        · rename_i e hz
          exact noZero_does ok hh hf (ok.nozero _ _ hz) ha he
        · cases he

theorem fnWith_ent (ok : EnvOK E) {g : FuncId} {args args' : List Value} {f : Tgt} {as : List Value} (ha : VRels ρ args args') (he : fnWith E g args st = some (.ent f as)) : as = args ∧ f = .fn g ∧ (callFunc g ⟨args'⟩).run E.P w = .ok (.enter g ⟨args'⟩) w := by
  unfold fnWith at he
  split at he
  · rename_i fn hfn
    split at he
    · rename_i body hbody
      injection he with he; injection he with e1 e2
      obtain ⟨k1, k2⟩ := ok.fn _ _ hfn
      refine ⟨e2.symm, e1.symm, ?_⟩
      simp only [callFunc, program, Sem.run_bind, Sem.run, Result.andThen_ok, k1, k2, hbody]
      simp
    · cases he
  · simp only [noZero, cond_eq_ite] at he
    repeat' (split at he)
    all_goals first | (cases he; done) | exact (fresh_no he).elim

theorem methIn_mem {name : String} : ∀ {l : List (String × FuncId)} {f : FuncId}, methIn name l = some f → (name, f) ∈ l
  | [], f, h => by cases h
  | p :: l, f, h => by
    have e : methIn name (p :: l) = (Bool.rec (motive := fun _ => Option FuncId) (methIn name l) (some p.2) (p.1 == name)) := rfl
    rw [e] at h
    cases hb : p.1 == name with
    | true =>
      rw [hb] at h
      injection h with h
      have : p.1 = name := by simpa using hb
      rw [← this, ← h]
      exact List.mem_cons_self ..
    | false =>
      rw [hb] at h
      exact List.mem_cons_of_mem _ (methIn_mem h)

/-- A call of a function value, or by an interface: it is the call of a function. -/
theorem resolve_value {c : Call} {type : TypeId} {x : Operand} (hcal : c.callee = .value x) {g : FuncId} {fs' cs' : List Value} (hv : evalT tm x = .func (.func g) ⟨fs'⟩ ⟨cs'⟩) :
    (do let d ← resolve (evalT tm) c type; invoke d.target d.args : Sem Next) = callFunc g ⟨fs' ++ (c.args.toList.map (evalT tm) ++ cs')⟩ := by
  have e1 : (resolve (evalT tm) c type : Sem Deferred) = pure { target := .fn (.func g) ⟨cs'⟩, args := ⟨fs'⟩ ++ c.args.map (evalT tm) } := by
    simp [resolve, hcal, hv, Deferred.ofValue]
  have e2 : ((⟨fs'⟩ : Array Value) ++ c.args.map (evalT tm) ++ ⟨cs'⟩) = ⟨fs' ++ (c.args.toList.map (evalT tm) ++ cs')⟩ := by
    apply Array.ext'
    simp
  rw [e1]
  show invoke (.fn (.func g) ⟨cs'⟩) (⟨fs'⟩ ++ c.args.map (evalT tm)) = _
  unfold invoke
  dsimp only
  rw [e2]

theorem resolve_invoke (ok : EnvOK E) {c : Call} {type : TypeId} {x : Operand} {name : String} (hcal : c.callee = .invoke x name) {t : TypeId} {u : Value} (hv : evalT tm x = .iface t u) {l : List (String × FuncId)} {g : FuncId} (hl : getR E.Me t = some l) (hm : methIn name l = some g) :
    (do let d ← resolve (evalT tm) c type; invoke d.target d.args : Sem Next).run E.P w = (callFunc g ⟨u :: c.args.toList.map (evalT tm)⟩).run E.P w := by
  have e1 : (resolve (evalT tm) c type : Sem Deferred) = pure { target := .fn (.method name) #[], args := #[.iface t u] ++ c.args.map (evalT tm) } := by
    simp [resolve, hcal, hv]
  rw [e1]
  show (invoke (.fn (.method name) #[]) (#[.iface t u] ++ c.args.map (evalT tm))).run E.P w = _
  have hmeth := ok.meth t l hl _ (methIn_mem hm) u w
  have hp : (program : Sem Program).run E.P w = .ok E.P w := rfl
  have e0 : ((#[.iface t u] : Array Value) ++ c.args.map (evalT tm))[0]? = some (.iface t u) := by
    rw [Array.getElem?_append_left (show 0 < 1 from Nat.zero_lt_one)]; rfl
  have e3 : ((#[.iface t u] : Array Value) ++ c.args.map (evalT tm)).extract 1 ((#[.iface t u] : Array Value) ++ c.args.map (evalT tm)).size = c.args.map (evalT tm) := by
    apply Array.ext'
    simp only [Array.toList_extract, Array.toList_map]
    simp
    exact List.take_of_length_le (by simp)
  unfold invoke
  dsimp only
  rw [e0]
  dsimp only
  rw [e3]
  unfold callMethod
  simp only [Sem.run_bind, hp, Result.andThen_ok, hmeth]
  congr 2
  apply Array.ext'
  simp

theorem call_val (ok : EnvOK E) (hb : Base E ρ st.n) (hs : SRel ρ st.σ tm) (hh : HRel ρ (getR st.h) w) (hf : Fresh ρ st.n n') {c : Call} {type : TypeId} (he : opCall E st c type = some (.val v h' n')) :
    Does E.P ρ st.h st.n w (do let d ← resolve (evalT tm) c type; invoke d.target d.args) v h' n' := by
  unfold opCall at he
  split at he
  · cases he
  · rename_i args hargs
    have ra := opnds_rel hb hs hargs
    split at he
    · rename_i f hcal
      split at he
      · rename_i g first captured hfv
        have hr := opnd_rel hb hs hfv
        generalize hv : evalT tm f = q at hr
        cases hr with
        | func hp h1 h2 =>
        rw [resolve_value hcal hv]
        exact fnWith_val ok hh hf (h1.append (ra.append h2)) he
      · cases he
      · cases he
    · rename_i b hcal
      obtain ⟨cst, hres⟩ : ∃ cst, (resolve (evalT tm) c type : Sem Deferred) = pure { target := .builtin b c.argTypes type cst, args := ⟨c.args.toList.map (evalT tm)⟩ } := by
        unfold resolve
        rw [hcal, args_eq]
        exact ⟨_, rfl⟩
      have hrun : (do let d ← resolve (evalT tm) c type; invoke d.target d.args : Sem Next) = builtin b c.argTypes type cst ⟨c.args.toList.map (evalT tm)⟩ := by rw [hres]; rfl
      have hmm : ∀ b', b = b' → (b' = .min ∨ b' = .max) → opMinMax E st b' c.argTypes type args = some (.val v h' n') → Does E.P ρ st.h st.n w (do let d ← resolve (evalT tm) c type; invoke d.target d.args) v h' n' := by
        intro b' hbb hor hm
        subst hbb
        unfold opMinMax at hm
        rw [cond_eq_ite, flatsR_eq] at hm
        split at hm
        · rename_i hfl
          split at hm
          · rename_i u hu
            rw [cond_eq_ite] at hm
            split at hm
            · rename_i hfu
              injection hm with hm; injection hm with e1 e2 e3
              subst e1; subst e2; subst e3
              have hall := VRels.eq_of_flats hfl ra
              refine does_pure hh (v' := u) ?_ (VRel.of_flat hfu)
              rw [hrun, hall]
              have := pureRun_run hu w
              rcases hor with rfl | rfl <;> exact this
            · cases hm
          · cases hm
        · cases hm
      split at he
      · rw [hrun]; exact append2_does ok hh hf ra he
      · rw [hrun]; exact copy_does ok hh ra he
      · rw [hrun]; exact len_does ok hh ra he
      · exact hmm _ rfl (.inl rfl) he
      · exact hmm _ rfl (.inr rfl) he
      · rw [hrun]; exact sliceData_does hh ra he
      · rw [hrun]; exact unsafeString_does ok hh ra he
      · rw [hrun]; exact delete_does ok hh ra he
      · rw [hrun]; exact cap_does ok hh ra he
      · cases he
    · rename_i x name hcal
      split at he
      · rename_i t u hx
        have hr := opnd_rel hb hs hx
        split at he
        · rename_i l hl
          split at he
          · rename_i g hm
            generalize hv : evalT tm x = q at hr
            cases hr with
            | iface hu =>
            have := fnWith_val ok hh hf (.cons hu ra) he
            obtain ⟨v', w', ρ', hrun, a, b⟩ := this
            refine ⟨v', w', ρ', ?_, a, b⟩
            rw [resolve_invoke ok hcal hv hl hm]
            exact hrun
          · cases he
        · cases he
      · cases he

theorem appendTo_no {z : Nat} {e : TypeId} {s : Value} {new : List Value} {f : Tgt} {args : List Value} (he : appendTo st z e s new = some (.ent f args)) : False := by
  unfold appendTo at he
  simp only [cond_eq_ite] at he
  repeat' (split at he)
  all_goals first | (cases he; done) | exact fresh_no he

theorem append_no {a : List TypeId} {b : List Value} {f : Tgt} {args : List Value} (he : opAppend E st a b = some (.ent f args)) : False := by
  unfold opAppend at he
  simp only [cond_eq_ite] at he
  repeat' (split at he)
  all_goals first | (cases he; done) | exact appendTo_no he

theorem append2_no {a : List TypeId} {b : List Value} {f : Tgt} {args : List Value} (he : opAppend2 E st a b = some (.ent f args)) : False := by
  unfold opAppend2 at he
  split at he
  · rename_i r hr
    injection he with he
    subst he
    exact append_no hr
  · unfold opAppendZ at he
    simp only [cond_eq_ite] at he
    repeat' (split at he)
    all_goals first | (cases he; done) | exact fresh_no he

theorem copy_no {a : List TypeId} {b : List Value} {f : Tgt} {args : List Value} (he : opCopy E st a b = some (.ent f args)) : False := by
  unfold opCopy at he
  simp only [cond_eq_ite] at he
  repeat' (split at he)
  all_goals cases he

theorem len_no {a : List TypeId} {b : List Value} {f : Tgt} {args : List Value} (he : opLen E st a b = some (.ent f args)) : False := by
  unfold opLen at he
  repeat' (split at he)
  all_goals cases he

theorem minmax_no {b : Builtin} {a : Array TypeId} {t : TypeId} {l : List Value} {f : Tgt} {args : List Value} (he : opMinMax E st b a t l = some (.ent f args)) : False := by
  unfold opMinMax at he
  simp only [cond_eq_ite] at he
  repeat' (split at he)
  all_goals cases he

theorem sliceData_no {args0 : List Value} {f : Tgt} {args : List Value} (he : opSliceData st args0 = some (.ent f args)) : False := by
  unfold opSliceData at he
  simp only [cond_eq_ite] at he
  repeat' (split at he)
  all_goals cases he

theorem unsafeString_no {ts : List TypeId} {args0 : List Value} {f : Tgt} {args : List Value} (he : opUnsafeString E st ts args0 = some (.ent f args)) : False := by
  unfold opUnsafeString at he
  simp only [cond_eq_ite] at he
  repeat' (split at he)
  all_goals cases he

theorem delete_no {ts : List TypeId} {args0 : List Value} {f : Tgt} {args : List Value} (he : opDelete E st ts args0 = some (.ent f args)) : False := by
  unfold opDelete at he
  simp only [cond_eq_ite] at he
  repeat' (split at he)
  all_goals cases he

def foldParams (r : Loop) (args : Array Value) : Array Value := (r.params.zip args).foldl (fun tmps (t, a) => tmps.setIfInBounds t a) r.tmps

/-- What a call goes into. -/
def Enters (P : Program) (ρ : Ren) (w : World) (t : Tgt) (args' : List Value) (nx : Next) (fr : Frame) : Prop :=
  match t with
  | .fn f => nx = .enter f ⟨args'⟩ ∧ fr = Frame.enter P f ⟨args'⟩ .normal
  | .rnd i => ∃ l r, ρ i = some l ∧ w.heap[l.g]? = some (.loop r) ∧ args'.length = r.params.size ∧ nx = .round l.g r.fn (foldParams r ⟨args'⟩) r.assign r.body ∧
      fr = Frame.round l.g r.fn (foldParams r ⟨args'⟩) r.assign r.body .normal

/-- The loop whose round is called is there. -/
def Round (h : Tr RO) (t : Tgt) (args : List Value) : Prop := ∀ i, t = .rnd i → ∃ L, loopOf h i = some L ∧ args.length = L.params.length

theorem loopOf_some {h : Tr RO} {i : Nat} {L : RLoop} (he : loopOf h i = some L) : getR h i = some (.loop L) := by
  unfold loopOf at he
  split at he
  · rename_i a hab; injection he with he; subst he; exact hab
  · cases he

theorem loop_at {h : Tr RO} (hh : HRel ρ (getR h) w) {i : Nat} {L : RLoop} (he : loopOf h i = some L) : ∃ l r, ρ i = some l ∧ w.heap[l.g]? = some (.loop r) ∧ LRel ρ L r := by
  obtain ⟨l, o', h1, h2, h3⟩ := hh.at_ i _ (loopOf_some he)
  cases h3 with
  | loop h => exact ⟨l, _, h1, h2, h⟩

theorem cap_no {ts : List TypeId} {args0 : List Value} {f : Tgt} {args : List Value} (he : opCap E st ts args0 = some (.ent f args)) : False := by
  unfold opCap at he
  repeat' (split at he)
  all_goals cases he

theorem call_ent (ok : EnvOK E) (hb : Base E ρ st.n) (hs : SRel ρ st.σ tm) (hh : HRel ρ (getR st.h) w) {c : Call} {type : TypeId} {f : Tgt} {args : List Value} (he : opCall E st c type = some (.ent f args)) (hround : Round st.h f args) :
    ∃ args' nx fr, (do let d ← resolve (evalT tm) c type; invoke d.target d.args : Sem Next).run E.P w = .ok nx w ∧ Enters E.P ρ w f args' nx fr ∧ VRels ρ args args' := by
  unfold opCall at he
  split at he
  · cases he
  · rename_i as hargs
    have ra := opnds_rel hb hs hargs
    split at he
    · rename_i x hcal
      split at he
      · rename_i g first captured hfv
        have hr := opnd_rel hb hs hfv
        generalize hv : evalT tm x = q at hr
        cases hr with
        | func hp h1 h2 =>
        obtain ⟨rfl, rfl, hrun⟩ := fnWith_ent (w := w) ok (h1.append (ra.append h2)) he
        rw [resolve_value hcal hv]
        exact ⟨_, _, _, hrun, ⟨rfl, rfl⟩, h1.append (ra.append h2)⟩
      · rename_i i a b hfv
        have hr := opnd_rel hb hs hfv
        injection he with he; injection he with e1 e2
        subst e1; subst e2
        obtain ⟨L, hL, hlen⟩ := hround i rfl
        obtain ⟨l, r, h1, h2, h3⟩ := loop_at hh hL
        generalize hv : evalT tm x = q at hr
        cases hr with
        | func hp _ _ => cases hp
        | yield hi =>
        rw [h1] at hi; injection hi with hi; subst hi
        have hsz : (c.args.toList.map (evalT tm)).length = r.params.size := by
          rw [← ra.length, hlen, ← h3.params]; simp
        refine ⟨c.args.toList.map (evalT tm), _, _, ?_, ⟨l, r, h1, h2, hsz, rfl, rfl⟩, ra⟩
        have e1 : (resolve (evalT tm) c type : Sem Deferred) = pure { target := .fn (.yield l.g) #[], args := #[] ++ c.args.map (evalT tm) } := by
          simp [resolve, hcal, hv, Deferred.ofValue]
        have e2 : ((#[] : Array Value) ++ c.args.map (evalT tm)) = ⟨c.args.toList.map (evalT tm)⟩ := by
          apply Array.ext'
          simp
        have hg : (Instr.getLoop l.g).run E.P w = .ok r w := by
          unfold Instr.getLoop
          rw [Sem.run_bind, run_getObj h2 (by intro c T fr e; cases e), Result.andThen_ok]
          rfl
        have hs2 : (⟨c.args.toList.map (evalT tm)⟩ : Array Value).size = r.params.size := hsz
        simp only [e1, Sem.run_bind, Sem.run_pure, Result.andThen_ok, invoke, e2, Instr.yield, hg]
        simp [hs2, foldParams]
      · cases he
    · split at he
      · exact (append2_no he).elim
      · exact (copy_no he).elim
      · exact (len_no he).elim
      · exact (minmax_no he).elim
      · exact (minmax_no he).elim
      · exact (sliceData_no he).elim
      · exact (unsafeString_no he).elim
      · exact (delete_no he).elim
      · exact (cap_no he).elim
      · cases he
    · rename_i x name hcal
      split at he
      · rename_i t u hx
        have hr := opnd_rel hb hs hx
        split at he
        · rename_i l hl
          split at he
          · rename_i g hm
            generalize hv : evalT tm x = q at hr
            cases hr with
            | iface hu =>
            obtain ⟨rfl, rfl, hrun⟩ := fnWith_ent (w := w) ok (VRels.cons hu ra) he
            refine ⟨_, _, _, ?_, ⟨rfl, rfl⟩, VRels.cons hu ra⟩
            rw [resolve_invoke ok hcal hv hl hm]
            exact hrun
          · cases he
        · cases he
      · cases he


theorem op_val (ok : EnvOK E) (hb : Base E ρ st.n) (hs : SRel ρ st.σ tm) (hh : HRel ρ (getR st.h) w) (hf : Fresh ρ st.n n') {o : Oper} (he : evalOp E st o = some (.val v h' n')) :
    notDefer o.op = true ∧ Does E.P ρ st.h st.n w (execOp (evalT tm) o) v h' n' := by
  unfold evalOp at he
  split at he
  case h_1 x hop => exact ⟨by rw [hop]; rfl, by unfold execOp; rw [hop]; exact move_does hb hs hh he⟩
  case h_2 x hop => exact ⟨by rw [hop]; rfl, by unfold execOp; rw [hop]; exact move_does hb hs hh he⟩
  case h_3 c a b hop => exact ⟨by rw [hop]; rfl, by unfold execOp; rw [hop]; exact pick_does hb hs hh he⟩
  case h_4 t hop => exact ⟨by rw [hop]; rfl, by unfold execOp; rw [hop]; exact alloc_does ok hh hf he⟩
  case h_5 t x hop => exact ⟨by rw [hop]; rfl, by unfold execOp; rw [hop]; exact box_does ok hb hs hh hf he⟩
  case h_6 t parts hop => exact ⟨by rw [hop]; rfl, by unfold execOp; rw [hop]; exact build_does ok hb hs hh he⟩
  case h_7 t len parts hop => exact ⟨by rw [hop]; rfl, by unfold execOp; rw [hop]; exact buildSlice_does ok hb hs hh hf he⟩
  case h_8 t x hop => exact ⟨by rw [hop]; rfl, by unfold execOp; rw [hop]; exact load_does ok hb hs hh he⟩
  case h_9 t x y hop => exact ⟨by rw [hop]; rfl, by unfold execOp; rw [hop]; exact store_does ok hb hs hh he⟩
  case h_10 x hop => exact ⟨by rw [hop]; rfl, by unfold execOp; rw [hop]; exact nilCheck_does hb hs hh he (fun a ha => by dsimp only; rw [ha]) (fun f a b ha => by dsimp only; rw [ha])⟩
  case h_11 op t x y yt hop => exact ⟨by rw [hop]; rfl, by unfold execOp; rw [hop]; exact binOp_does ok hb hs hh he⟩
  case h_12 op t x hop => exact ⟨by rw [hop]; rfl, by unfold execOp; rw [hop]; exact unOp_does hb hs hh he⟩
  case h_13 src dst x hop => exact ⟨by rw [hop]; rfl, by unfold execOp; rw [hop]; exact convert_does ok hb hs hh hf he⟩
  case h_14 t x hop => exact ⟨by rw [hop]; rfl, by unfold execOp; rw [hop]; exact makeInterface_does ok hb hs hh he⟩
  case h_15 fn first captured hop => exact ⟨by rw [hop]; rfl, by unfold execOp; rw [hop]; exact makeFunc_does hb hs hh he⟩
  case h_16 t r hop => exact ⟨by rw [hop]; rfl, by unfold execOp; rw [hop]; exact makeMap2_does ok hb hs hh hf he⟩
  case h_17 t l c hop => exact ⟨by rw [hop]; rfl, by unfold execOp; rw [hop]; exact makeSlice_does ok hb hs hh hf he⟩
  case h_18 t x lo hi mx hop => exact ⟨by rw [hop]; rfl, by unfold execOp; rw [hop]; exact slice_does ok hb hs hh he⟩
  case h_19 s x f hop => exact ⟨by rw [hop]; rfl, by unfold execOp; rw [hop]; exact fieldAddr_does ok hb hs hh he⟩
  case h_20 t x ix hop => exact ⟨by rw [hop]; rfl, by unfold execOp; rw [hop]; exact indexAddr_does ok hb hs hh he⟩
  case h_21 t x f hop => exact ⟨by rw [hop]; rfl, by unfold execOp; rw [hop]; exact field_does ok hb hs hh he⟩
  case h_22 t x ix hop => exact ⟨by rw [hop]; rfl, by unfold execOp; rw [hop]; exact index_does ok hb hs hh he⟩
  case h_23 x i hop => exact ⟨by rw [hop]; rfl, by unfold execOp; rw [hop]; exact extract_does hb hs hh he⟩
  case h_24 t x ix b hop => exact ⟨by rw [hop]; rfl, by unfold execOp; rw [hop]; exact lookup_does ok hb hs hh he⟩
  case h_25 t x ix y hop => exact ⟨by rw [hop]; rfl, by unfold execOp; rw [hop]; exact mapUpdate_does ok hb hs hh he⟩
  case h_26 t x ix y hop => exact ⟨by rw [hop]; rfl, by unfold execOp; rw [hop]; exact mapUpdate_does ok hb hs hh he⟩
  case h_27 t x ix hop => exact ⟨by rw [hop]; rfl, by unfold execOp; rw [hop]; exact mapEntry_does ok hb hs hh he⟩
  case h_28 t x s y hop => exact ⟨by rw [hop]; rfl, by unfold execOp; rw [hop]; exact entryStore_does hb hs hh he⟩
  case h_29 t x hop => exact ⟨by rw [hop]; rfl, by unfold execOp; rw [hop]; exact range_does ok hb hs hh hf he⟩
  case h_30 x b hop => exact ⟨by rw [hop]; rfl, by unfold execOp; rw [hop]; exact next_does hb hs hh he⟩
  case h_31 x hop => exact ⟨by rw [hop]; rfl, by unfold execOp; rw [hop]; exact entry_does hb hs hh he⟩
  case h_32 c hop => exact ⟨by rw [hop]; rfl, by unfold execOp; rw [hop]; exact call_val ok hb hs hh hf he⟩
  case h_33 => cases he

end
end Go.Ev
end

section
/- A ground evaluator for closed calls, part Q: code and calls. -/
namespace Go.Ev
open Go.RowKit

theorem tmp_putR {σ : Tr Value} {d : Nat} {v : Value} (h : d < big) (t : Nat) : tmp (putR σ d (some v)) t = if t = d then v else tmp σ t := by
  unfold tmp
  rw [getR_putR σ d (some v) h t]
  split <;> rfl

theorem putT_rel {ρ : Ren} {N : Nat} {σ σ' : Tr Value} {tm : Array Value} {dst : Option Tmp} {v v' : Value} (hN : N ≤ 1000000) (hz : tm.size = N) (h : putT N σ dst v = some σ') (hs : SRel ρ σ tm) (hv : VRel ρ v v') :
    SRel ρ σ' (put tm dst v') ∧ (put tm dst v').size = N := by
  unfold putT at h
  split at h
  · injection h with h; subst h; exact ⟨hs, hz⟩
  · rename_i d
    rw [cond_eq_ite, blt_iff] at h
    split at h
    · rename_i hd
      rw [decide_eq_true_eq] at hd
      injection h with h; subst h
      refine ⟨fun t => ?_, by simp [put, hz]⟩
      rw [tmp_putR (by unfold big; omega)]
      have e : (put tm (some d) v').getD t undef = if t = d then v' else tm.getD t undef := by
        simp only [put, Array.getD_eq_getD_getElem?, Array.getElem?_setIfInBounds]
        by_cases ht : t = d
        · subst ht; simp [hz, hd]
        · rw [if_neg (fun e => ht e.symm), if_neg ht]
      rw [e]
      split
      · exact hv
      · exact hs t
    · cases h

theorem wanted_eq {ρ : Ren} {σ : Tr Value} {tm : Array Value} {ops : Array Oper} (hs : SRel ρ σ tm) (o : Oper) : Region.wanted o (yielded ops tm) = wantedT ops.toList σ o := by
  have hy : ∀ j, yielded ops tm j = yieldedT ops.toList σ j := by
    intro j
    unfold yielded yieldedT
    rw [nth_eq]
    have : ops.toList[j]? = ops[j]? := by simp
    rw [this]
    cases hj : ops[j]? with
    | none => rfl
    | some u =>
      cases hd : u.dst with
      | none => simp [hd]
      | some d =>
        have hr := hs d
        simp only [Option.bind_some, hd]
        by_cases hlt : d < tm.size
        · rw [Array.getD_eq_getD_getElem?, Array.getElem?_eq_getElem hlt] at hr
          rw [Array.getElem?_eq_getElem hlt]
          simp only [Option.getD_some] at hr
          generalize tm[d] = x at hr ⊢
          generalize tmp σ d = y at hr ⊢
          cases hr <;> rfl
        · rw [Array.getD_eq_getD_getElem?, Array.getElem?_eq_none (Nat.le_of_not_lt hlt)] at hr
          rw [Array.getElem?_eq_none (Nat.le_of_not_lt hlt)]
          simp only [Option.getD_none] at hr
          generalize tmp σ d = y at hr ⊢
          generalize hu : undef = u at hr
          cases hr <;> first | rfl | (simp [undef] at hu; done)
  unfold Region.wanted wantedT
  cases o.guard with
  | none => rfl
  | some p =>
    obtain ⟨j, want⟩ := p
    simp only [hy]
    cases yieldedT ops.toList σ j with
    | none => rfl
    | some b => cases b <;> cases want <;> rfl

theorem Base.goes {E : Env} {ρ ρ' : Ren} {h h' : Mem} {n n' : Nat} {w w' : World} (hb : Base E ρ n) (g : Goes ρ h n w ρ' h' n' w') : Base E ρ' n' := by
  refine ⟨Nat.le_trans hb.1 g.le, fun q hq => ?_⟩
  obtain ⟨l, h1, h2⟩ := hb.2 q hq
  have := hb.1
  exact ⟨l, by rw [g.ext q (by omega)]; exact h1, h2⟩

/-- What an evaluated call stands for. -/
def CallOK (E : Env) (call : CallT) : Prop :=
  ∀ t args h n v h' n', call t args h n = .ok (v, h', n') → n ≤ n' ∧ Round h t args ∧ ∀ ρ w args' nx fr, Base E ρ n → HRel ρ (getR h) w → VRels ρ args args' → Enters E.P ρ w t args' nx fr → Fresh ρ n n' → ∀ (c : Frame) (cs : List Frame),
    ∃ ρ' w' v', Goes ρ (getR h) n w ρ' (getR h') n' w' ∧ VRel ρ' v v' ∧ Steps E.P (lone fr (c :: cs) w) (lone (c.finish v') cs w')

theorem st_go {P : Program} {ρ : Ren} {b : Frame} {tm : Array Value} {k : List Item} {cs : List Frame} {w : World} {ops : Array Oper} {i : Nat} {rest : List Nat} {o : Oper} {t : Tgt} {args' : List Value} {nx : Next} {fr : Frame}
    (ho : ops[i]? = some o) (hw : Region.wanted o (yielded ops tm) = true) (hd : notDefer o.op = true) (hr : (execOp (evalT tm) o).run P w = .ok nx w) (he : Enters P ρ w t args' nx fr) :
    step P (lone (fat b tm (.inRegion ops (i :: rest) :: k)) cs w) = .next (lone fr (fat b tm (.inRegion ops (i :: rest) :: k) :: cs) w) := by
  cases t with
  | fn f =>
    obtain ⟨rfl, rfl⟩ := he
    exact st_enter ho hw hd hr
  | rnd j =>
    obtain ⟨l, r, _, _, _, rfl, rfl⟩ := he
    exact st_round ho hw hd hr

theorem runOps_cons (E : Env) (call : CallT) (N : Nat) (all : List Oper) (o : Oper) (l : List Oper) (st : St) : runOps E call N all (o :: l) st = runOp E call N all o (runOps E call N all l) st := rfl

theorem goOn_ok {N : Nat} {o : Oper} {next : St → Ans St} {st st' : St} {v : Value} {h : Tr RO} {n : Nat} (he : goOn N o next st v h n = .ok st') : ∃ σ, putT N st.σ o.dst v = some σ ∧ st.n ≤ n ∧ next ⟨σ, h, n⟩ = .ok st' := by
  unfold goOn at he
  split at he
  · rename_i σ h1 h2; exact ⟨σ, h1, Nat.le_of_ble_eq_true h2, he⟩
  · cases he

theorem runOps_mono {E : Env} {call : CallT} {N : Nat} {all : List Oper} : ∀ {l : List Oper} {st st' : St}, runOps E call N all l st = .ok st' → st.n ≤ st'.n
  | [], st, st', h => by injection h with h; subst h; exact Nat.le_refl _
  | o :: l, st, st', h => by
    rw [runOps_cons] at h
    unfold runOp at h
    split at h
    · split at h
      · obtain ⟨σ, _, h2, h3⟩ := goOn_ok h; exact Nat.le_trans h2 (runOps_mono h3)
      · split at h
        · obtain ⟨σ, _, h2, h3⟩ := goOn_ok h; exact Nat.le_trans h2 (runOps_mono h3)
        · cases h
      · cases h
    · obtain ⟨σ, _, h2, h3⟩ := goOn_ok h
      have := runOps_mono h3
      exact Nat.le_trans h2 this

theorem ent_run {E : Env} {ρ : Ren} {st : St} {tm : Array Value} {w : World} (ok : EnvOK E) (hb : Base E ρ st.n) (hs : SRel ρ st.σ tm) (hh : HRel ρ (getR st.h) w) {o : Oper} {f : Tgt} {args : List Value} (he : evalOp E st o = some (.ent f args)) (hround : Round st.h f args) :
    notDefer o.op = true ∧ ∃ args' nx fr, (execOp (evalT tm) o).run E.P w = .ok nx w ∧ Enters E.P ρ w f args' nx fr ∧ VRels ρ args args' := by
  have hop : ∃ c, o.op = .call c := by
    unfold evalOp at he
    split at he
    case h_32 c hop => exact ⟨c, hop⟩
    all_goals exfalso
    case h_33 => cases he
    all_goals
      revert he
      simp only [opMove, opPick, opAlloc, opBox, opBuild, opBuildSlice, opLoad, opStore, opNilCheck, opBinOp, opUnOp, opConvert, opConvPure, opMakeInterface, opMakeFunc, opMakeSlice, opSlice, sliceArr, sliceCut, sliceCut3, opUnsafe, opMakeMap, opLookup, lookupIn, lookupP, opMapUpdate, opMapEntry, opEntryStore, opRange, opNext, opEntry, opFieldAddr, opIndexAddr, opField, opIndex, opExtract, cond_eq_ite]
      intro he
      repeat' (split at he)
      all_goals first | (cases he; done) | exact fresh_no he
  obtain ⟨c, hop⟩ := hop
  refine ⟨by rw [hop]; rfl, ?_⟩
  unfold evalOp at he
  rw [hop] at he
  unfold execOp
  rw [hop]
  exact call_ent ok hb hs hh he hround

theorem runOps_ok {E : Env} (ok : EnvOK E) {call : CallT} (hc : CallOK E call) {N : Nat} (hN : N ≤ 1000000) (ops : Array Oper) : ∀ (l : List Oper) (i : Nat) (st st' : St), ops.toList.drop i = l → i ≤ ops.size → runOps E call N ops.toList l st = .ok st' →
    ∀ (ρ : Ren) (w : World) (tm : Array Value), tm.size = N → Base E ρ st.n → SRel ρ st.σ tm → HRel ρ (getR st.h) w → Fresh ρ st.n st'.n → ∀ (bf : Frame) (kf : List Item) (cf : List Frame),
    ∃ ρ' w' tm', Goes ρ (getR st.h) st.n w ρ' (getR st'.h) st'.n w' ∧ SRel ρ' st'.σ tm' ∧ tm'.size = N ∧
      Steps E.P (lone (fat bf tm (.inRegion ops (List.range' i (ops.size - i)) :: kf)) cf w) (lone (fat bf tm' kf) cf w')
  | [], i, st, st', hd, hi, h => by
    injection h with h; subst h
    intro ρ w tm hz hb hs hh _ bf kf cf
    have : ops.size ≤ i := by
      have := congrArg List.length hd
      simp at this; omega
    have e : ops.size - i = 0 := by omega
    rw [e]
    exact ⟨ρ, w, tm, Goes.refl hh, hs, hz, .one st_region_end⟩
  | o :: l, i, st, st', hd, hi, h => by
    intro ρ w tm hz hb hs hh hf bf kf cf
    have hlt : i < ops.size := by
      have := congrArg List.length hd
      simp at this; omega
    have ho : ops[i]? = some o := by
      have := congrArg (fun x => x[0]?) hd
      simpa using this
    have hd' : ops.toList.drop (i + 1) = l := by
      have := congrArg List.tail hd
      simpa using this
    have e : ops.size - i = (ops.size - (i + 1)) + 1 := by omega
    rw [e, List.range'_succ]
    rw [runOps_cons] at h
    -- the rest, behind this operation
    have rest : ∀ (v : Value) (h1 : Tr RO) (n1 : Nat) (σ1 : Tr Value), putT N st.σ o.dst v = some σ1 → st.n ≤ n1 → runOps E call N ops.toList l ⟨σ1, h1, n1⟩ = .ok st' →
        ∀ (ρ1 : Ren) (w1 : World) (v1 : Value), Goes ρ (getR st.h) st.n w ρ1 (getR h1) n1 w1 → VRel ρ1 v v1 →
        Steps E.P (lone (fat bf tm (.inRegion ops (i :: List.range' (i + 1) (ops.size - (i + 1))) :: kf)) cf w) (lone (fat bf (put tm o.dst v1) (.inRegion ops (List.range' (i + 1) (ops.size - (i + 1))) :: kf)) cf w1) →
        ∃ ρ' w' tm', Goes ρ (getR st.h) st.n w ρ' (getR st'.h) st'.n w' ∧ SRel ρ' st'.σ tm' ∧ tm'.size = N ∧
          Steps E.P (lone (fat bf tm (.inRegion ops (i :: List.range' (i + 1) (ops.size - (i + 1))) :: kf)) cf w) (lone (fat bf tm' kf) cf w') := by
      intro v h1 n1 σ1 hp hle hr ρ1 w1 v1 hg hv hst
      have hmono := runOps_mono hr
      have hf1 : Fresh ρ st.n n1 := hf.left hmono
      have hgr := hg.grows hf1
      obtain ⟨s1, s2⟩ := putT_rel hN hz hp (hs.mono hgr) hv
      obtain ⟨ρ', w', tm', g', a, b, c⟩ := runOps_ok ok hc hN ops l (i + 1) ⟨σ1, h1, n1⟩ st' hd' (by omega) hr ρ1 w1 (put tm o.dst v1) s2 (hb.goes hg) s1 hg.rel (hg.fresh hf) bf kf cf
      exact ⟨ρ', w', tm', hg.trans g', a, b, hst.trans c⟩
    unfold runOp at h
    have hw := wanted_eq (ops := ops) hs o
    split at h
    · rename_i hwt
      rw [hwt] at hw
      split at h
      · rename_i v h1 n1 hev
        obtain ⟨σ1, hp, hle, hr⟩ := goOn_ok h
        have hmono := runOps_mono hr
        obtain ⟨hnd, v1, w1, ρ1, hrun, hv, hg⟩ := op_val ok hb hs hh (hf.left hmono) hev
        rcases hrun with hrun | ⟨hrun, rfl⟩
        · exact rest v h1 n1 σ1 hp hle hr ρ1 w1 v1 hg hv (.one (st_value ho hw hnd hrun))
        · exact rest v h1 n1 σ1 hp hle hr ρ1 w1 undef hg hv (.one (st_none ho hw hnd hrun))
      · rename_i f args hev
        split at h
        · rename_i v h1 n1 hcall
          obtain ⟨σ1, hp, hle, hr⟩ := goOn_ok h
          have hmono := runOps_mono hr
          obtain ⟨_, hround, hcc⟩ := hc _ _ _ _ _ _ _ hcall
          obtain ⟨hnd, args', nx, fr, hrun, hent, hargs⟩ := ent_run (w := w) ok hb hs hh hev hround
          obtain ⟨ρ1, w1, v1, hg, hv, hst⟩ := hcc ρ w args' nx fr hb hh hargs hent (hf.left hmono) (fat bf tm (.inRegion ops (i :: List.range' (i + 1) (ops.size - (i + 1))) :: kf)) cf
          refine rest v h1 n1 σ1 hp hle hr ρ1 w1 v1 hg hv ?_
          have hfin : (fat bf tm (.inRegion ops (i :: List.range' (i + 1) (ops.size - (i + 1))) :: kf)).finish v1 = fat bf (put tm o.dst v1) (.inRegion ops (List.range' (i + 1) (ops.size - (i + 1))) :: kf) := by rw [finish_fat, ho]; rfl
          rw [← hfin]
          exact .head (st_go ho hw hnd hrun hent) hst
        · cases h
      · cases h
    · rename_i hwt
      rw [hwt] at hw
      obtain ⟨σ1, hp, hle, hr⟩ := goOn_ok h
      refine rest undef st.h st.n σ1 hp hle hr ρ w undef (Goes.refl hh) (.tuple .nil) ?_
      have := st_op_skip (P := E.P) (b := bf) (tm := tm) (k := kf) (cs := cf) (w := w) (ops := ops) (i := i) (rest := List.range' (i + 1) (ops.size - (i + 1))) (by simp [ho, hw])
      rw [ho] at this
      exact .one this

end Go.Ev
end

