/- A ground evaluator for closed calls, part H: operations on values. -/
import Derived.Test.YtggcnnpklkmeoaaGreatDoorED
namespace Go.Ev
open Go.RowKit

theorem sameK_eq {j k : IntKind} (h : sameK j k = true) : j = k ∧ sameK k k = true := by
  cases j <;> cases k <;> simp_all [sameK]

theorem ilt_eq (x y : Int) : ilt x y = decide (x < y) := by
  rw [Bool.eq_iff_iff, decide_eq_true_iff]
  cases x <;> cases y <;> simp only [ilt, blt_iff, decide_eq_true_eq, Int.ofNat_eq_natCast, Int.negSucc_eq, Bool.false_eq_true, false_iff, true_iff] <;> omega

theorem ieq_eq (x y : Int) : ieq x y = decide (x = y) := by
  rw [Bool.eq_iff_iff, decide_eq_true_iff]
  cases x <;> cases y <;> simp only [ieq, beq_iff, decide_eq_true_eq, Int.ofNat_eq_natCast, Int.negSucc_eq, Bool.false_eq_true, false_iff] <;> omega

theorem wrap_fits {k : IntKind} {c : Int} (hk : sameK k k = true) (h : fitsK k c = true) : k.wrap c = c := by
  cases k <;> simp [sameK] at hk <;> cases c <;> simp only [fitsK, blt_iff, decide_eq_true_eq, Bool.false_eq_true] at h <;>
    simp only [IntKind.wrap, IntKind.bits, IntKind.signed, Int.ofNat_eq_natCast, Int.negSucc_eq] <;> simp <;> omega

theorem intK_some {k : IntKind} {c : Int} {v : Value} (h : intK k c = some v) : fitsK k c = true ∧ v = .int k c := by
  unfold intK at h
  rw [cond_eq_ite] at h
  split at h
  · rename_i hf; injection h with h; exact ⟨hf, h.symm⟩
  · cases h

theorem eqGuard_ints {P : Program} (op : BinOp) (t : TypeId) (x y : Operand) (j k : IntKind) (a b : Int) (w : World) : (eqGuard op t x y (.int j a) (.int k b)).run P w = .ok () w := by
  unfold eqGuard
  cases op <;> simp

theorem quick_run {P : Program} {op : BinOp} {k : IntKind} {a b : Int} {v : Value} (hk : sameK k k = true) (h : quick op k a b = some v) (t : TypeId) (w : World) :
    (binOp op t (.int k a) (.int k b)).run P w = .ok v w := by
  cases op with
  | add => obtain ⟨hf, rfl⟩ := intK_some h; simp only [binOp, ne_eq, not_true, if_false, Op.intArith]; rw [show k.wrap (a + b) = Int.add a b from wrap_fits hk hf]; rfl
  | sub => obtain ⟨hf, rfl⟩ := intK_some h; simp only [binOp, ne_eq, not_true, if_false, Op.intArith]; rw [show k.wrap (a - b) = Int.sub a b from wrap_fits hk hf]; rfl
  | mul => obtain ⟨hf, rfl⟩ := intK_some h; simp only [binOp, ne_eq, not_true, if_false, Op.intArith]; rw [show k.wrap (a * b) = Int.mul a b from wrap_fits hk hf]; rfl
  | eql => injection h with h; subst h; simp only [binOp, ne_eq, not_true, if_false, Op.intCmp, Sem.run_pure, ieq_eq]; first | done | rfl
  | neq => injection h with h; subst h; simp only [binOp, ne_eq, not_true, if_false, Op.intCmp, Sem.run_pure, ieq_eq]; rfl
  | lss => injection h with h; subst h; simp only [binOp, ne_eq, not_true, if_false, Op.intCmp, Sem.run_pure, ilt_eq]
  | leq => injection h with h; subst h; simp only [binOp, ne_eq, not_true, if_false, Op.intCmp, Sem.run_pure, ilt_eq]; rw [← decide_not]; congr 2; exact decide_eq_decide.2 (by omega)
  | gtr => injection h with h; subst h; simp only [binOp, ne_eq, not_true, if_false, Op.intCmp, Sem.run_pure, ilt_eq]; first | done | rfl
  | geq => injection h with h; subst h; simp only [binOp, ne_eq, not_true, if_false, Op.intCmp, Sem.run_pure, ilt_eq]; rw [← decide_not]; congr 2; exact decide_eq_decide.2 (by omega)
  | _ => cases h

theorem fast_run {P : Program} {op : BinOp} {a b v : Value} (h : fast op a b = some v) (t : TypeId) (x y : Operand) (w : World) :
    (do eqGuard op t x y a b; binOp op t a b : Sem Value).run P w = .ok v w := by
  unfold fast at h
  split at h
  · rw [cond_eq_ite] at h
    split at h
    · rename_i hs
      obtain ⟨rfl, hk⟩ := sameK_eq hs
      rw [Sem.run_bind, eqGuard_ints, Result.andThen_ok]
      exact quick_run hk h t w
    · cases h
  · cases h

theorem fast_flat {op : BinOp} {a b v : Value} (h : fast op a b = some v) : flat a = true ∧ flat b = true ∧ flat v = true := by
  unfold fast at h
  split at h
  · rw [cond_eq_ite] at h
    split at h
    · refine ⟨rfl, rfl, ?_⟩
      cases op <;> first | (obtain ⟨_, rfl⟩ := intK_some h; rfl) | (injection h with h; subst h; rfl) | cases h
    · cases h
  · cases h


theorem nilEq_run {P : Program} {t : TypeId} {d : TypeDesc} (hd : P.underlying t = some d) {a b a' b' : Value} {ρ : Ren} {r : Bool} (h : nilEq d a b = some r) (ha : VRel ρ a a') (hb : VRel ρ b b') (w : World) :
    (Op.equal t a' b').run P w = .ok r w ∧ ∀ op x y, (eqGuard op t x y a' b').run P w = .ok () w := by
  have hu : (underlying t).run P w = .ok d w := by simp [Go.underlying, program, hd, Sem.run]
  have e : Op.maxDepth = 9999 + 1 := rfl
  unfold nilEq at h
  split at h <;> first
    | cases h; done
    | (cases h; cases ha <;> cases hb <;>
       exact ⟨by rw [Op.equal, e, Op.equalIn, Sem.run_bind, hu, Result.andThen_ok]; rfl, fun op x y => by unfold eqGuard; cases op <;> simp⟩)

section
variable {E : Env} {ρ : Ren} {st : St} {tm : Array Value} {w : World} {v : Value} {h' : Tr RO} {n' : Nat}

theorem flat2_of_flat {v : Value} (h : flat v = true) : flat2 v = true := by
  cases v <;> first | exact h | (simp [flat] at h; done)

theorem slow_run (ok : EnvOK E) {op : BinOp} {t : TypeId} {x y : Operand} {a b a' b' : Value} (h : slow E op t x y a b = some v) (ha : VRel ρ a a') (hb : VRel ρ b b') :
    (do eqGuard op t x y a' b'; binOp op t a' b' : Sem Value).run E.P w = .ok v w ∧ flat v = true := by
  unfold slow at h
  rw [cond_eq_ite] at h
  split at h
  · rename_i hf
    simp only [Bool.and_eq_true, flat2R_eq] at hf
    have e1 := VRel.eq_of_flat2 hf.1 ha
    have e2 := VRel.eq_of_flat2 hf.2 hb
    subst e1; subst e2
    split at h
    · rename_i u hu
      rw [cond_eq_ite] at h
      split at h
      · rename_i hfl
        injection h with h; subst h
        exact ⟨pureRun_run hu w, hfl⟩
      · cases h
    · cases h
  · split at h
    · rename_i d hd
      have hT := ok.ti hd
      split at h
      · split at h
        · rename_i r hr
          injection h with h; subst h
          obtain ⟨k1, k2⟩ := nilEq_run hT.under hr ha hb w
          refine ⟨?_, rfl⟩
          rw [Sem.run_bind, k2, Result.andThen_ok]
          unfold nilEq at hr
          split at hr <;> first | (cases hr; done) | (cases ha <;> cases hb <;> simp only [binOp, Sem.run_bind, k1, Result.andThen_ok, Sem.run_pure])
        · cases h
      · split at h
        · rename_i r hr
          injection h with h; subst h
          obtain ⟨k1, k2⟩ := nilEq_run hT.under hr ha hb w
          refine ⟨?_, rfl⟩
          rw [Sem.run_bind, k2, Result.andThen_ok]
          unfold nilEq at hr
          split at hr <;> first | (cases hr; done) | (cases ha <;> cases hb <;> simp only [binOp, Sem.run_bind, k1, Result.andThen_ok, Sem.run_pure])
        · cases h
      · cases h
    · cases h

theorem eqBig_run (ok : EnvOK E) {t : TypeId} {a b a' b' : Value} {r : Bool} (h : eqBig E t a b = some r) (ha : VRel ρ a a') (hb : VRel ρ b b') :
    (Op.equal t a' b').run E.P w = .ok r w ∧ (∀ op x y, (eqGuard op t x y a' b').run E.P w = .ok () w) ∧ (∀ op, op = .eql ∨ op = .neq → binOp op t a' b' = (if op = .eql then (do pure (.bool (← Op.equal t a' b'))) else (do pure (.bool (!(← Op.equal t a' b')))) : Sem Value)) := by
  unfold eqBig at h
  split at h
  · rename_i xs ys
    split at h
    · rename_i hg
      have h3 := eqIn_rel h ha hb
      cases ha with
      | agg h1 =>
      cases hb with
      | agg h2 =>
      have e : Op.maxDepth = 9998 + 2 := rfl
      refine ⟨?_, ?_, ?_⟩
      · rw [Op.equal, e]
        exact eqIn_run ok 9998 h3 w
      · intro op x y
        unfold eqGuard
        have hp : (program : Sem Program).run E.P w = .ok E.P w := rfl
        cases op <;> simp [hp, hg]
      · rintro op (rfl | rfl) <;> rfl
    · cases h
  · rename_i i o j q
    split at h
    · rename_i d hd
      have hu := (ok.ti hd).underlying (w := w)
      split at h
      · rename_i e hde
        rw [hde] at hu
        split at h
        · rename_i z hz
          rw [cond_eq_ite] at h
          split at h
          · rename_i hc
            rw [Bool.and_eq_true, beq_iff, decide_eq_true_eq, Bool.not_eq_true', beq_iff, decide_eq_false_iff_not] at hc
            obtain ⟨rfl, hz0⟩ := hc
            injection h with h; subst h
            cases ha with
            | ptr g1 =>
            cases hb with
            | ptr g2 =>
            rw [g1] at g2; injection g2 with g2; subst g2
            rename_i l
            have e2 : Op.maxDepth = 9999 + 1 := rfl
            refine ⟨?_, ?_, ?_⟩
            · rw [Op.equal, e2, Op.equalIn, Sem.run_bind, hu, Result.andThen_ok]
              dsimp only
              rw [Sem.run_bind, (ok.ti hz).sizeOf, Result.andThen_ok, if_pos hz0]
              simp [sameAddr]
              rw [beq_iff, Bool.eq_iff_iff, beq_iff_eq, decide_eq_true_eq]
              simp
            · intro op x y
              unfold eqGuard
              cases op <;> simp
            · rintro op (rfl | rfl) <;> rfl
          · cases h
        · cases h
      · cases h
    · cases h
  · cases h

theorem binOp_does (ok : EnvOK E) (hb : Base E ρ st.n) (hs : SRel ρ st.σ tm) (hh : HRel ρ (getR st.h) w) {op : BinOp} {t : TypeId} {x y : Operand} (he : opBinOp E st op t x y = some (.val v h' n')) :
    Does E.P ρ st.h st.n w (do pure (.value (← (do eqGuard op t x y (evalT tm x) (evalT tm y); binOp op t (evalT tm x) (evalT tm y))))) v h' n' := by
  unfold opBinOp at he
  split at he
  · rename_i a b ha hb2
    have ra := opnd_rel hb hs ha
    have rb := opnd_rel hb hs hb2
    split at he
    · rename_i u hu
      injection he with he; injection he with e1 e2 e3
      subst e1; subst e2; subst e3
      obtain ⟨f1, f2, f3⟩ := fast_flat hu
      have e1 := VRel.eq_of_flat f1 ra
      have e2 := VRel.eq_of_flat f2 rb
      rw [e1, e2]
      refine does_pure hh (v' := u) ?_ (VRel.of_flat f3)
      rw [Sem.run_bind, fast_run hu, Result.andThen_ok, Sem.run_pure]
    · split at he
      · rename_i u hu
        injection he with he; injection he with e1 e2 e3
        subst e1; subst e2; subst e3
        unfold eqOp at hu
        split at hu
        · split at hu
          · rename_i r hr
            injection hu with hu; subst hu
            obtain ⟨k1, k2, k3⟩ := eqBig_run (w := w) ok hr ra rb
            refine does_pure hh (v' := .bool r) ?_ (.bool _)
            rw [Sem.run_bind, Sem.run_bind, k2, Result.andThen_ok, k3 _ (.inl rfl), if_pos rfl, Sem.run_bind, k1]
            rfl
          · cases hu
        · split at hu
          · rename_i r hr
            injection hu with hu; subst hu
            obtain ⟨k1, k2, k3⟩ := eqBig_run (w := w) ok hr ra rb
            refine does_pure hh (v' := .bool (!r)) ?_ (.bool _)
            rw [Sem.run_bind, Sem.run_bind, k2, Result.andThen_ok, k3 _ (.inr rfl), if_neg (by intro h; cases h), Sem.run_bind, k1]
            rfl
          · cases hu
        · cases hu
      · split at he
        · rename_i u hu
          injection he with he; injection he with e1 e2 e3
          subst e1; subst e2; subst e3
          obtain ⟨k1, k2⟩ := slow_run (w := w) ok hu ra rb
          refine does_pure hh (v' := u) ?_ (VRel.of_flat k2)
          rw [Sem.run_bind, k1, Result.andThen_ok, Sem.run_pure]
        · cases he
  · cases he

theorem unOp_does (hb : Base E ρ st.n) (hs : SRel ρ st.σ tm) (hh : HRel ρ (getR st.h) w) {op : UnOp} {x : Operand} (he : opUnOp E st op x = some (.val v h' n')) :
    Does E.P ρ st.h st.n w (do pure (.value (← Op.unary op (evalT tm x)))) v h' n' := by
  unfold opUnOp at he
  split at he
  · rename_i a ha
    rw [cond_eq_ite] at he
    split at he
    · rename_i hf
      split at he
      · rename_i u hu
        rw [cond_eq_ite] at he
        split at he
        · rename_i hfl
          injection he with he; injection he with e1 e2 e3
          subst e1; subst e2; subst e3
          rw [VRel.eq_of_flat hf (opnd_rel hb hs ha)]
          refine does_pure hh (v' := u) ?_ (VRel.of_flat hfl)
          rw [Sem.run_bind, pureRun_run hu, Result.andThen_ok, Sem.run_pure]
        · cases he
      · cases he
    · cases he
  · cases he

theorem nilCheck_does (hb : Base E ρ st.n) (hs : SRel ρ st.σ tm) (hh : HRel ρ (getR st.h) w) {x : Operand} (he : opNilCheck E st x = some (.val v h' n')) {s : Sem Next}
    (hs1 : ∀ a, evalT tm x = .pointer (some a) → s = pure (.value (.pointer (some a)))) (hs2 : ∀ f a b, evalT tm x = .func (.func f) a b → s = pure (.value (.func (.func f) a b))) :
    Does E.P ρ st.h st.n w s v h' n' := by
  unfold opNilCheck at he
  split at he
  · rename_i a ha
    injection he with he; injection he with e1 e2 e3
    subst e1; subst e2; subst e3
    have hr := opnd_rel hb hs ha
    generalize hv : evalT tm x = u at hr
    cases hr with
    | ptr h => rw [hs1 _ hv]; exact does_pure hh rfl (.ptr h)
  · rename_i f a b ha
    injection he with he; injection he with e1 e2 e3
    subst e1; subst e2; subst e3
    have hr := opnd_rel hb hs ha
    generalize hv : evalT tm x = u at hr
    cases hr with
    | func hp h1 h2 => rw [hs2 _ _ _ hv]; exact does_pure hh rfl (.func hp h1 h2)
  · cases he

theorem makeInterface_does (ok : EnvOK E) (hb : Base E ρ st.n) (hs : SRel ρ st.σ tm) (hh : HRel ρ (getR st.h) w) {t : TypeId} {x : Operand} (he : opMakeInterface E st t x = some (.val v h' n')) :
    Does E.P ρ st.h st.n w (do pure (.value (← Instr.makeInterface t (evalT tm x)))) v h' n' := by
  unfold opMakeInterface at he
  split at he
  · rename_i a d ha hd
    have hT := ok.ti hd
    rw [cond_eq_ite] at he
    split at he
    · cases he
    · rename_i hi
      injection he with he; injection he with e1 e2 e3
      subst e1; subst e2; subst e3
      refine does_pure hh (v' := .iface t (evalT tm x)) ?_ (.iface (opnd_rel hb hs ha))
      simp only [Instr.makeInterface, Sem.run_bind, hT.underlying, Result.andThen_ok]
      cases hdu : d.under <;> simp_all [isIface]
  · cases he

theorem makeFunc_does (hb : Base E ρ st.n) (hs : SRel ρ st.σ tm) (hh : HRel ρ (getR st.h) w) {fn : Fn} {first captured : Array Operand} (he : opMakeFunc E st fn first captured = some (.val v h' n')) :
    Does E.P ρ st.h st.n w (do pure (.value (← Instr.makeFunc fn (first.map (evalT tm)) (captured.map (evalT tm))))) v h' n' := by
  unfold opMakeFunc at he
  rw [cond_eq_ite] at he
  split at he
  · rename_i hp
    split at he
    · rename_i a b ha hb2
      injection he with he; injection he with e1 e2 e3
      subst e1; subst e2; subst e3
      have ra := opnds_rel hb hs ha
      have rb := opnds_rel hb hs hb2
      refine does_pure hh (v' := .func fn ⟨first.toList.map (evalT tm)⟩ ⟨captured.toList.map (evalT tm)⟩) ?_ (.func hp ra rb)
      simp only [Instr.makeFunc, Sem.run_bind, Sem.run_pure, Result.andThen_ok]
      congr 3
      · exact Array.ext' (by simp)
      · exact Array.ext' (by simp)
    · cases he
  · cases he

theorem extract_does (hb : Base E ρ st.n) (hs : SRel ρ st.σ tm) (hh : HRel ρ (getR st.h) w) {x : Operand} {i : Nat} (he : opExtract E st x i = some (.val v h' n')) :
    Does E.P ρ st.h st.n w (do pure (.value (← Instr.extract (evalT tm x) i))) v h' n' := by
  unfold opExtract at he
  split at he
  · rename_i vs hx
    split at he
    · rename_i u hu
      injection he with he; injection he with e1 e2 e3
      subst e1; subst e2; subst e3
      have hr := opnd_rel hb hs hx
      generalize hv : evalT tm x = a at hr
      cases hr with
      | tuple hvs =>
        rw [nth_eq] at hu
        obtain ⟨u', h1, h2⟩ := hvs.get hu
        refine does_pure hh (v' := u') ?_ h2
        simp [Instr.extract, h1]
    · cases he
  · cases he

theorem field_does (ok : EnvOK E) (hb : Base E ρ st.n) (hs : SRel ρ st.σ tm) (hh : HRel ρ (getR st.h) w) {t : TypeId} {x : Operand} {f : Nat} (he : opField E st t x f = some (.val v h' n')) :
    Does E.P ρ st.h st.n w (do pure (.value (← Instr.field t (evalT tm x) f))) v h' n' := by
  unfold opField at he
  split at he
  · rename_i cs d hx hd
    have hT := ok.ti hd
    split at he
    · rename_i fs hfs
      split at he
      · rename_i fd hfd
        split at he
        · rename_i u hu
          injection he with he; injection he with e1 e2 e3
          subst e1; subst e2; subst e3
          have hr := opnd_rel hb hs hx
          generalize hv : evalT tm x = a at hr
          cases hr with
          | agg hcs =>
            obtain ⟨u', k1, k2⟩ := part_does ok hcs hu
            refine does_pure hh (v' := u') ?_ k2
            rw [nth_eq] at hfd
            have hfd' : fs[f]? = some fd := by simpa using hfd
            have hu2 := hT.underlying (w := w)
            rw [hfs] at hu2
            simp only [Instr.field, Sem.run_bind, hu2, Result.andThen_ok, hfd', asAgg, Sem.run_pure, k1]
        · cases he
      · cases he
    · cases he
  · cases he

theorem fieldAddr_does (ok : EnvOK E) (hb : Base E ρ st.n) (hs : SRel ρ st.σ tm) (hh : HRel ρ (getR st.h) w) {t : TypeId} {x : Operand} {f : Nat} (he : opFieldAddr E st t x f = some (.val v h' n')) :
    Does E.P ρ st.h st.n w (do pure (.value (← Instr.fieldAt t (evalT tm x) f))) v h' n' := by
  unfold opFieldAddr at he
  split at he
  · rename_i i o d hx hd
    have hT := ok.ti hd
    split at he
    · rename_i fs hfs
      split at he
      · rename_i fd hfd
        split at he
        · rename_i j hj
          have hJ := ok.ti hj
          rw [cond_eq_ite, beq_iff] at he
          split at he
          · cases he
          · rename_i hz
            rw [decide_eq_true_eq] at hz
            injection he with he; injection he with e1 e2 e3
            subst e1; subst e2; subst e3
            have hr := opnd_rel hb hs hx
            generalize hv : evalT tm x = a at hr
            cases hr with
            | ptr hi =>
              rename_i l
              refine does_pure hh (v' := .pointer (some ⟨l.g, l.sh + (o + fd.offset), none⟩)) ?_ (.ptr hi)
              rw [nth_eq] at hfd
              have hfd' : fs[f]? = some fd := by simpa using hfd
              have hu2 := hT.underlying (w := w)
              rw [hfs] at hu2
              simp only [Instr.fieldAt, Sem.run_bind, hu2, Result.andThen_ok, hfd', Instr.sureAddr, Sem.run_pure, fieldPlace, hJ.sizeOf, hz, if_false, add_lit, Nat.add_assoc]
        · cases he
      · cases he
    · cases he
  · cases he

end
end Go.Ev
