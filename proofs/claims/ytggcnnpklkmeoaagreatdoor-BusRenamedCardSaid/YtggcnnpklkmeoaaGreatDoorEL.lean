/- A ground evaluator for closed calls, part U: regions that draw their order. -/
import Derived.Test.YtggcnnpklkmeoaaGreatDoorEK
section
namespace Go.Ev
open Go.RowKit

theorem memN_iff {x : Nat} : ∀ {l : List Nat}, memN x l = true ↔ x ∈ l
  | [] => by constructor <;> intro h <;> cases h
  | y :: l => by
    have e : memN x (y :: l) = (if x = y then true else memN x l) := by
      show (Bool.rec (motive := fun _ => Bool) (memN x l) true (Nat.beq x y)) = _
      rw [beq_iff]
      by_cases h : x = y <;> simp [h]
    rw [e, List.mem_cons]
    by_cases h : x = y
    · simp [h]
    · simp [h, memN_iff]

theorem allLt_iff {m : Nat} : ∀ {l : List Nat}, allLt l m = true ↔ ∀ x ∈ l, x < m
  | [] => by simp; rfl
  | y :: l => by
    have e : allLt (y :: l) m = (if y < m then allLt l m else false) := by
      show (Bool.rec (motive := fun _ => Bool) false (allLt l m) (Nat.blt y m)) = _
      rw [blt_iff]
      by_cases h : y < m <;> simp [h]
    rw [e]
    by_cases h : y < m
    · simp [h, allLt_iff]
    · simp [h]

theorem apartN_iff {b : List Nat} : ∀ {a : List Nat}, apartN a b = true ↔ ∀ x ∈ a, x ∉ b
  | [] => by simp; rfl
  | y :: l => by
    have e : apartN (y :: l) b = (if y ∈ b then false else apartN l b) := by
      show (Bool.rec (motive := fun _ => Bool) (apartN l b) false (memN y b)) = _
      by_cases h : y ∈ b
      · rw [memN_iff.2 h]; simp [h]
      · have : memN y b = false := by
          cases hm : memN y b with
          | false => rfl
          | true => exact absurd (memN_iff.1 hm) h
        rw [this]; simp [h]
    rw [e]
    by_cases h : y ∈ b
    · simp [h]
    · simp [h, apartN_iff]

theorem outside_iff {n m : Nat} : ∀ {l : List Nat}, outside l n m = true ↔ ∀ x ∈ l, ¬ (n ≤ x ∧ x < m)
  | [] => by simp; rfl
  | y :: l => by
    have e : outside (y :: l) n m = (if n ≤ y ∧ y < m then false else outside l n m) := by
      show (Bool.rec (motive := fun _ => Bool) (outside l n m) false (Nat.ble n y && Nat.blt y m)) = _
      rw [ble_iff, blt_iff]
      by_cases h : n ≤ y <;> by_cases h2 : y < m <;> simp [h, h2]
    rw [e]
    by_cases h : n ≤ y ∧ y < m
    · rw [if_pos h]
      exact ⟨fun k => (by cases k), fun k => absurd h (k y (by simp))⟩
    · rw [if_neg h, outside_iff]
      simp only [List.mem_cons, forall_eq_or_imp]
      exact ⟨fun k => ⟨h, k⟩, fun k => k.2⟩

theorem joinN_mem {x : Nat} {b : List Nat} : ∀ {a : List Nat}, x ∈ joinN a b ↔ x ∈ a ∨ x ∈ b
  | [] => by show x ∈ b ↔ _; simp
  | y :: l => by
    have e : joinN (y :: l) b = (if y ∈ joinN l b then joinN l b else y :: joinN l b) := by
      show (Bool.rec (motive := fun _ => List Nat) (y :: joinN l b) (joinN l b) (memN y (joinN l b))) = _
      by_cases h : y ∈ joinN l b
      · rw [memN_iff.2 h]; simp [h]
      · have : memN y (joinN l b) = false := by
          cases hm : memN y (joinN l b) with
          | false => rfl
          | true => exact absurd (memN_iff.1 hm) h
        rw [this]; simp [h]
    rw [e]
    have ih := joinN_mem (x := x) (b := b) (a := l)
    by_cases h : y ∈ joinN l b
    · rw [if_pos h, ih]
      constructor
      · rintro (h1 | h1)
        · exact .inl (List.mem_cons_of_mem _ h1)
        · exact .inr h1
      · rintro (h1 | h1)
        · rcases List.mem_cons.1 h1 with rfl | h1
          · exact ih.1 h
          · exact .inl h1
        · exact .inr h1
    · rw [if_neg h, List.mem_cons, ih, List.mem_cons, or_assoc]

theorem pickT_get {σ : Tr Value} : ∀ {l : List Nat}, (∀ x ∈ l, x < big) → ∀ t, tmp (pickT σ l) t = if t ∈ l then tmp σ t else undef
  | [], _, t => rfl
  | y :: l, h, t => by
    have e : pickT σ (y :: l) = putR (pickT σ l) y (some (tmp σ y)) := rfl
    rw [e, tmp_putR (h y (by simp)), pickT_get (fun x hx => h x (by simp [hx]))]
    by_cases he : t = y
    · subst he; simp
    · simp [he]

theorem pickH_get {h : Tr RO} : ∀ {l : List Nat}, (∀ x ∈ l, x < big) → ∀ i, getR (pickH h l) i = if i ∈ l then getR h i else none
  | [], _, i => rfl
  | y :: l, hb, i => by
    have e : pickH h (y :: l) = putR (pickH h l) y (getR h y) := rfl
    rw [e, getR_putR _ _ _ (hb y (by simp)), pickH_get (fun x hx => hb x (by simp [hx]))]
    by_cases he : i = y
    · subst he; simp
    · simp [he]

theorem overL_get {h h2 : Tr RO} : ∀ {l : List Nat}, (∀ x ∈ l, x < big) → ∀ i, getR (overL h h2 l) i = if i ∈ l then getR h2 i else getR h i
  | [], _, i => by show getR h i = _; simp
  | y :: l, hb, i => by
    have e : overL h h2 (y :: l) = putR (overL h h2 l) y (getR h2 y) := rfl
    rw [e, getR_putR _ _ _ (hb y (by simp)), overL_get (fun x hx => hb x (by simp [hx]))]
    by_cases he : i = y
    · subst he; simp
    · simp [he]

theorem overN_get {h h2 : Tr RO} {n : Nat} : ∀ {k : Nat}, n + k ≤ big → ∀ i, getR (overN h h2 n k) i = if n ≤ i ∧ i < n + k then getR h2 i else getR h i
  | 0, _, i => by show getR h i = _; rw [if_neg (by omega)]
  | k + 1, hb, i => by
    have e : overN h h2 n (k + 1) = putR (overN h h2 n k) (n + k) (getR h2 (n + k)) := rfl
    rw [e, getR_putR _ _ _ (by omega), overN_get (by omega)]
    by_cases he : i = n + k
    · subst he; rw [if_pos rfl, if_pos (by omega)]
    · rw [if_neg he]
      by_cases h1 : n ≤ i ∧ i < n + k
      · rw [if_pos h1, if_pos (by omega)]
      · rw [if_neg h1, if_neg (by omega)]

/-- The temporaries of these alone. -/
def star (tm : Array Value) (uses : List Nat) : Array Value := (Array.range tm.size).map fun t => if t ∈ uses then tm.getD t undef else undef

theorem star_size (tm : Array Value) (uses : List Nat) : (star tm uses).size = tm.size := by simp [star]

theorem star_get (tm : Array Value) (uses : List Nat) (t : Nat) : (star tm uses).getD t undef = if t ∈ uses then tm.getD t undef else undef := by
  rw [Array.getD_eq_getD_getElem?]
  by_cases h : t < tm.size
  · simp [star, h]
  · have : (star tm uses)[t]? = none := Array.getElem?_eq_none (by rw [star_size]; omega)
    rw [this]
    have e : tm.getD t undef = undef := by rw [Array.getD_eq_getD_getElem?, Array.getElem?_eq_none (by omega)]; rfl
    rw [e]; simp

theorem star_opt (tm : Array Value) (uses : List Nat) (t : Nat) (ht : t ∈ uses) : (star tm uses)[t]? = tm[t]? := by
  by_cases h : t < tm.size
  · simp [star, h, ht]
  · rw [Array.getElem?_eq_none (by rw [star_size]; omega), Array.getElem?_eq_none (by omega)]

theorem tmpsIn_cons (x : Operand) (l : List Operand) : tmpsIn (x :: l) = (match x with | .tmp t => t :: tmpsIn l | _ => tmpsIn l) := by cases x <;> rfl

theorem tmpsIn_mem {t : Nat} : ∀ {l : List Operand}, .tmp t ∈ l → t ∈ tmpsIn l
  | x :: l, h => by
    rw [tmpsIn_cons]
    rcases List.mem_cons.1 h with rfl | h2
    · simp
    · cases x with
      | tmp u => exact List.mem_cons_of_mem _ (tmpsIn_mem h2)
      | const _ => exact tmpsIn_mem h2
      | global _ => exact tmpsIn_mem h2
      | func _ => exact tmpsIn_mem h2

theorem star_exec {tm : Array Value} {all : List Oper} {o : Oper} (hd : notDeferOp o.op = true) : execOp (evalT (star tm (usesOf all o))) o = execOp (evalT tm) o := by
  refine execOp_congr o (fun cs b e => by rw [e] at hd; cases hd) fun x hx => ?_
  cases x with
  | tmp t =>
    show (star tm (usesOf all o)).getD t undef = tm.getD t undef
    rw [star_get, if_pos]
    exact List.mem_append_left _ (tmpsIn_mem (by simpa using hx))
  | _ => rfl

theorem star_wanted {tm : Array Value} {ops : Array Oper} {o : Oper} : Region.wanted o (yielded ops (star tm (usesOf ops.toList o))) = Region.wanted o (yielded ops tm) := by
  unfold Region.wanted
  cases hg : o.guard with
  | none => rfl
  | some p =>
    obtain ⟨j, want⟩ := p
    have : yielded ops (star tm (usesOf ops.toList o)) j = yielded ops tm j := by
      unfold yielded
      cases hj : (ops[j]?).bind (·.dst) with
      | none => rfl
      | some d =>
        have hd : d ∈ usesOf ops.toList o := by
          unfold usesOf guardT
          rw [hg]
          dsimp only
          have hn : nth ops.toList j = ops[j]? := by rw [nth_eq]; simp
          rw [hn]
          cases ho : ops[j]? with
          | none => rw [ho] at hj; cases hj
          | some g =>
            rw [ho] at hj
            have hj' : g.dst = some d := hj
            simp [hj']
        simp only [Option.bind_some, star_opt tm _ d hd]
    simp only [this]

/-- What an operation does on its own small state, in whatever order it comes. -/
def LocalOK (E : Env) (N : Nat) (ops : Array Oper) (j : Nat) (o : Oper) (σ : Nat → Value) (uses : List Nat) (hF : Mem) (n m : Nat) (v : Value) (post : Mem) : Prop :=
  ∀ (ρ : Ren) (w : World) (tm : Array Value), tm.size = N → Base E ρ n → (∀ t ∈ uses, VRel ρ (σ t) (tm.getD t undef)) → HRel ρ hF w → Fresh ρ n m → ∀ (bf : Frame) (rest : List Nat) (kf : List Item) (cf : List Frame),
    ∃ ρ' w' v', Goes ρ hF n w ρ' post m w' ∧ VRel ρ' v v' ∧
      Steps E.P (lone (fat bf tm (.inRegion ops (j :: rest) :: kf)) cf w) (lone (fat bf (put tm o.dst v') (.inRegion ops rest :: kf)) cf w')

theorem local_srel {ρ : Ren} {σ : Tr Value} {tm : Array Value} {uses : List Nat} (hu : ∀ x ∈ uses, x < big) (h : ∀ t ∈ uses, VRel ρ (tmp σ t) (tm.getD t undef)) : SRel ρ (pickT σ uses) (star tm uses) := by
  intro t
  rw [pickT_get hu, star_get]
  by_cases ht : t ∈ uses
  · rw [if_pos ht, if_pos ht]; exact h t ht
  · rw [if_neg ht, if_neg ht]; exact .tuple .nil

section
variable {E : Env} {N : Nat} {ops : Array Oper} {j : Nat} {o : Oper} {st : St}

theorem local_val (ok : EnvOK E) (ho : ops[j]? = some o) (hd : notDeferOp o.op = true) (hu : ∀ x ∈ usesOf ops.toList o, x < big) {hF : Tr RO} {v : Value} {h2 : Tr RO} {m : Nat}
    (hw : wantedT ops.toList (pickT st.σ (usesOf ops.toList o)) o = true) (he : evalOp E ⟨pickT st.σ (usesOf ops.toList o), hF, st.n⟩ o = some (.val v h2 m)) :
    LocalOK E N ops j o (tmp st.σ) (usesOf ops.toList o) (getR hF) st.n m v (getR h2) := by
  intro ρ w tm hz hb hs hh hf bf rest kf cf
  have hs' := local_srel hu hs
  obtain ⟨hnd, v1, w1, ρ1, hrun, hv, hg⟩ := op_val (st := ⟨pickT st.σ (usesOf ops.toList o), hF, st.n⟩) ok hb hs' hh hf he
  rw [star_exec hd] at hrun
  have hwt : Region.wanted o (yielded ops tm) = true := by rw [← star_wanted, wanted_eq (ops := ops) hs' o]; exact hw
  refine ⟨ρ1, w1, v1, hg, hv, ?_⟩
  rcases hrun with hrun | ⟨hrun, rfl⟩
  · exact .one (st_value ho hwt hnd hrun)
  · exact .one (st_none ho hwt hnd hrun)

theorem local_ent (ok : EnvOK E) {call : CallT} (hc : CallOK E call) (ho : ops[j]? = some o) (hd : notDeferOp o.op = true) (hu : ∀ x ∈ usesOf ops.toList o, x < big) {hF : Tr RO} {v : Value} {h2 : Tr RO} {m : Nat} {f : Tgt} {args : List Value}
    (hw : wantedT ops.toList (pickT st.σ (usesOf ops.toList o)) o = true) (he : evalOp E ⟨pickT st.σ (usesOf ops.toList o), hF, st.n⟩ o = some (.ent f args)) (hcall : call f args hF st.n = .ok (v, h2, m)) :
    LocalOK E N ops j o (tmp st.σ) (usesOf ops.toList o) (getR hF) st.n m v (getR h2) := by
  intro ρ w tm hz hb hs hh hf bf rest kf cf
  have hs' := local_srel hu hs
  obtain ⟨_, hround, hcc⟩ := hc _ _ _ _ _ _ _ hcall
  obtain ⟨hnd, args', nx, fr, hrun, hent, hargs⟩ := ent_run (w := w) (st := ⟨pickT st.σ (usesOf ops.toList o), hF, st.n⟩) ok hb hs' hh he hround
  rw [star_exec hd] at hrun
  have hwt : Region.wanted o (yielded ops tm) = true := by rw [← star_wanted, wanted_eq (ops := ops) hs' o]; exact hw
  obtain ⟨ρ1, w1, v1, hg, hv, hst⟩ := hcc ρ w args' nx fr hb hh hargs hent hf (fat bf tm (.inRegion ops (j :: rest) :: kf)) cf
  refine ⟨ρ1, w1, v1, hg, hv, ?_⟩
  have hfin : (fat bf tm (.inRegion ops (j :: rest) :: kf)).finish v1 = fat bf (put tm o.dst v1) (.inRegion ops rest :: kf) := by rw [finish_fat, ho]; rfl
  rw [← hfin]
  exact .head (st_go ho hwt hnd hrun hent) hst

theorem local_skip (ho : ops[j]? = some o) (hu : ∀ x ∈ usesOf ops.toList o, x < big) (hw : wantedT ops.toList (pickT st.σ (usesOf ops.toList o)) o = false) :
    LocalOK E N ops j o (tmp st.σ) (usesOf ops.toList o) (fun _ => none) st.n st.n undef (fun _ => none) := by
  intro ρ w tm hz hb hs hh hf bf rest kf cf
  have hs' := local_srel hu hs
  have hwt : Region.wanted o (yielded ops tm) = false := by rw [← star_wanted, wanted_eq (ops := ops) hs' o]; exact hw
  refine ⟨ρ, w, undef, Goes.refl hh, .tuple .nil, ?_⟩
  have := st_op_skip (P := E.P) (b := bf) (tm := tm) (k := kf) (cs := cf) (w := w) (ops := ops) (i := j) (rest := rest) (by simp [ho, hwt])
  rw [ho] at this
  exact .one this
theorem noneOf_iff {kt : TypeId} {k : Value} : ∀ {es : List MapEntry}, noneOf E kt k es = true ↔ ∀ e ∈ es, eqIn E kt k e.key = some false
  | [] => by constructor <;> intro h
             · intro e he; cases he
             · rfl
  | e :: es => by
    have e1 : noneOf E kt k (e :: es) = (match eqIn E kt k e.key with
      | some false => noneOf E kt k es
      | _ => false) := rfl
    rw [e1]
    constructor
    · intro h
      split at h
      · rename_i hq
        intro x hx
        rcases List.mem_cons.1 hx with rfl | hx
        · exact hq
        · exact noneOf_iff.1 h x hx
      · cases h
    · intro h
      rw [h e (by simp)]
      exact noneOf_iff.2 fun x hx => h x (List.mem_cons_of_mem _ hx)

/-- One object alone. -/
def alone (r : Nat) (o : Option RO) : Mem := fun i => if i = r then o else none

theorem NRels.mem {ρ : Ren} : ∀ {a a' : List MapEntry}, NRels ρ a a' → ∀ e' ∈ a', ∃ e ∈ a, NRel ρ e e'
  | _, _, .nil, e', h => by cases h
  | _, _, .cons h hs, e', he => by
    rcases List.mem_cons.1 he with rfl | he
    · exact ⟨_, by simp, h⟩
    · obtain ⟨e, h1, h2⟩ := hs.mem e' he
      exact ⟨e, List.mem_cons_of_mem _ h1, h2⟩

theorem local_ins (ok : EnvOK E) (ho : ops[j]? = some o) (hu : ∀ x ∈ usesOf ops.toList o, x < big) {r : Nat} {kt : TypeId} {k v : Value}
    (hw : wantedT ops.toList (pickT st.σ (usesOf ops.toList o)) o = true) (hi : insOf E (pickT st.σ (usesOf ops.toList o)) o = some (r, kt, k, v)) (ob : RO) (es : List MapEntry) (hes : entOf ob = some es) (hn : ∀ e ∈ es, eqIn E kt k e.key = some false) :
    LocalOK E N ops j o (tmp st.σ) (usesOf ops.toList o) (alone r (some ob)) st.n st.n undef (alone r (some (.pmap (es ++ [⟨k, v, 0⟩])))) := by
  intro ρ w tm hz hb hs hh hf bf rest kf cf
  have hs' := local_srel hu hs
  have hwt : Region.wanted o (yielded ops tm) = true := by rw [← star_wanted, wanted_eq (ops := ops) hs' o]; exact hw
  unfold insOf at hi
  split at hi
  · rename_i t x ix y hop
    split at hi
    · rename_i d r0 k0 v0 hd hx hk hv
      split at hi
      · rename_i kt0 et hde
        rw [cond_eq_ite] at hi
        split at hi
        · rename_i hc
          rw [Bool.and_eq_true, flat2R_eq] at hc
          injection hi with hi
          injection hi with e1 hi; injection hi with e2 hi; injection hi with e3 e4
          subst e1; subst e2; subst e3; subst e4
          have hty := (ok.ti hd).underlying (w := w)
          rw [hde] at hty
          have rm := opnd_rel (n := st.n) hb hs' hx
          have rk := opnd_rel (n := st.n) hb hs' hk
          have rv := opnd_rel (n := st.n) hb hs' hv
          have ek := VRel.eq_of_flat2 hc.1 rk
          have hsingle : alone r0 (some ob) r0 = some ob := if_pos rfl
          obtain ⟨l, o', h1, h2, h3⟩ := hh.at_ r0 ob hsingle
          obtain ⟨es2, es', c, rfl, h4, h5⟩ := ent_rel hes h3
          generalize hx' : evalT (star tm (usesOf ops.toList o)) x = x' at rm
          cases rm with
          | map hl =>
          rw [h1] at hl; injection hl with hl; subst hl
          have hgo := run_getObj (P := E.P) h2 (by intro c T fr e; cases e)
          have hfalse : ∀ e ∈ es', eqIn E kt0 k0 e.key = some false := by
            intro e he
            obtain ⟨e1, h6, h7⟩ := h4.mem e (h5.mem_iff.2 he)
            rw [h7.key]; exact hn _ h6
          obtain ⟨q1, q, q2, q3⟩ := asked_run ok (w := w) hc.2 (fun e he => ⟨false, hfalse e he⟩)
          have hfil : es'.filter (hasKey E kt0 k0) = [] := by
            refine List.filter_eq_nil_iff.2 fun e he => ?_
            unfold hasKey; rw [hfalse e he]; decide
          rw [hfil] at q3
          have q3' : q = none := by
            cases q with
            | none => rfl
            | some p => cases q3
          subst q3'
          have hset2 := run_setObj (P := E.P) (o' := .map ((⟨es'⟩ : Array MapEntry).push { key := k0, val := evalT (star tm (usesOf ops.toList o)) y, born := c }) (c + 1)) h2 (by intro c T fr e; cases e)
          have hrun : (execOp (evalT tm) o).run E.P w = .ok .skip { w with heap := w.heap.setIfInBounds l.g (.map ((⟨es'⟩ : Array MapEntry).push { key := k0, val := evalT (star tm (usesOf ops.toList o)) y, born := c }) (c + 1)) } := by
            rw [← star_exec (tm := tm) (all := ops.toList) (o := o) (by rw [hop]; rfl)]
            unfold execOp
            rw [hop]
            show (do Instr.mapUpdate t (evalT (star tm (usesOf ops.toList o)) x) (evalT (star tm (usesOf ops.toList o)) ix) (evalT (star tm (usesOf ops.toList o)) y); pure Next.skip : Sem Next).run E.P w = _
            unfold Instr.mapUpdate
            rw [ek, hx']
            simp only [Sem.run_bind, hty, hgo, Result.andThen_ok, q1, q2, hset2, Sem.run_pure]
          refine ⟨ρ, _, undef, goes_update hh (i := r0) (l := l) (by rw [hsingle]; simp) h1 (.pmap (es ++ [⟨k0, v0, 0⟩])) _ (fun q => ?_) (changed_obj (.map ((⟨es'⟩ : Array MapEntry).push { key := k0, val := evalT (star tm (usesOf ops.toList o)) y, born := c }) (c + 1)) (lt_of_heap h2)) ?_, .tuple .nil, ?_⟩
          · unfold alone
            by_cases e : q = r0
            · rw [if_pos e, if_pos e]
            · rw [if_neg e, if_neg e, if_neg e]
          · have ep : ((⟨es'⟩ : Array MapEntry).push { key := k0, val := evalT (star tm (usesOf ops.toList o)) y, born := c }) = ⟨es' ++ [{ key := k0, val := evalT (star tm (usesOf ops.toList o)) y, born := c }]⟩ := by
              apply Array.ext'; simp
            rw [ep]
            exact .pmap (h4.append (.cons (e' := { key := k0, val := evalT (star tm (usesOf ops.toList o)) y, born := c }) ⟨rfl, hc.1, rv⟩ .nil)) (h5.append (.refl _))
          · exact .one (st_none ho hwt (by rw [hop]; rfl) hrun)
        · cases hi
      · cases hi
    · cases hi
  · cases hi

end

end Go.Ev
end

section
/- A ground evaluator for closed calls, part V: the frame of an operation, and what a set of operations leaves. -/
namespace Go.Ev
open Go.RowKit

/-- The names of F alone. -/
def only (F : List Nat) (h : Mem) : Mem := fun i => if i ∈ F then h i else none

def mergeF (F : List Nat) (n m : Nat) (post h : Mem) : Mem := fun i => if i ∈ F then post i else if n ≤ i ∧ i < m then post i else h i

theorem mergeF_in {F : List Nat} {n m : Nat} {post h : Mem} {i : Nat} (k : i ∈ F ∨ (n ≤ i ∧ i < m)) : mergeF F n m post h i = post i := by
  unfold mergeF
  by_cases h1 : i ∈ F
  · rw [if_pos h1]
  · rw [if_neg h1]
    rcases k with k | k
    · exact absurd k h1
    · rw [if_pos k]

theorem mergeF_out {F : List Nat} {n m : Nat} {post h : Mem} {i : Nat} (h1 : i ∉ F) (h2 : ¬ (n ≤ i ∧ i < m)) : mergeF F n m post h i = h i := by
  unfold mergeF; rw [if_neg h1, if_neg h2]

theorem Named.only {ρ : Ren} {F : List Nat} {h : Mem} {g : Nat} (k : Named ρ (only F h) g) : ∃ i l, i ∈ F ∧ h i ≠ none ∧ ρ i = some l ∧ l.g = g := by
  obtain ⟨i, l, h1, h2, h3⟩ := k
  unfold Ev.only at h1
  by_cases hi : i ∈ F
  · rw [if_pos hi] at h1; exact ⟨i, l, hi, h1, h2, h3⟩
  · rw [if_neg hi] at h1; exact absurd rfl h1

/-- What goes on in a part of the memory goes on in the whole of it. -/
theorem Goes.frame {ρ ρ' : Ren} {h post : Mem} {F : List Nat} {n m : Nat} {w w' : World} (k : Goes ρ (only F h) n w ρ' post m w') (hh : HRel ρ h w) (hf : Fresh ρ n m) :
    Goes ρ h n w ρ' (mergeF F n m post h) m w' := by
  have gr := k.grows hf
  have away : ∀ i o l, i ∉ F → h i = some o → ρ i = some l → ¬ Named ρ (only F h) l.g := by
    intro i o l hi ho hl hn
    obtain ⟨j, lj, hj, h1, h2, h3⟩ := hn.only
    have := hh.inj j i lj l h1 (by rw [ho]; simp) h2 hl h3
    exact hi (this ▸ hj)
  have old : ∀ i, i ∉ F → ¬ (n ≤ i ∧ i < m) → ∀ o, h i = some o → ∃ l o', ρ i = some l ∧ ρ' i = some l ∧ w.heap[l.g]? = some o' ∧ w'.heap[l.g]? = some o' ∧ ORel ρ l o o' ∧ l.g < w.heap.size := by
    intro i h1 h2 o ho
    obtain ⟨l, o', a, b, c⟩ := hh.at_ i o ho
    have hlt : l.g < w.heap.size := by
      by_cases hlt : l.g < w.heap.size
      · exact hlt
      · rw [Array.getElem?_eq_none (by omega)] at b; cases b
    exact ⟨l, o', a, by rw [k.ext i h2, a], b, by rw [k.block l.g hlt (away i o l h1 ho a), b], c, hlt⟩
  have named : ∀ i l, ¬ (i ∈ F ∨ (n ≤ i ∧ i < m)) → h i ≠ none → ρ' i = some l → ρ i = some l ∧ l.g < w.heap.size ∧ ¬ Named ρ' post l.g := by
    intro i l hi hn hl
    have h1 : i ∉ F := fun k => hi (.inl k)
    have h2 : ¬ (n ≤ i ∧ i < m) := fun k => hi (.inr k)
    cases ho : h i with
    | none => exact absurd ho hn
    | some o =>
      obtain ⟨l2, o', a, b, _, _, _, hlt⟩ := old i h1 h2 o ho
      rw [hl] at b; injection b with b; subst b
      refine ⟨a, hlt, fun hnm => ?_⟩
      rcases k.own _ hnm with h3 | h3
      · omega
      · exact away i o l h1 ho a h3
  constructor
  · exact k.le
  · exact k.ext
  · constructor
    · intro i o ho
      by_cases hi : i ∈ F ∨ (n ≤ i ∧ i < m)
      · rw [mergeF_in hi] at ho; exact k.rel.at_ i o ho
      · have h1 : i ∉ F := fun k => hi (.inl k)
        have h2 : ¬ (n ≤ i ∧ i < m) := fun k => hi (.inr k)
        rw [mergeF_out h1 h2] at ho
        obtain ⟨l, o', _, b, _, c, d, _⟩ := old i h1 h2 o ho
        exact ⟨l, o', b, c, d.mono gr⟩
    · intro i j li lj hi hj hli hlj hg
      by_cases ti : i ∈ F ∨ (n ≤ i ∧ i < m)
      · rw [mergeF_in ti] at hi
        by_cases tj : j ∈ F ∨ (n ≤ j ∧ j < m)
        · rw [mergeF_in tj] at hj
          exact k.rel.inj i j li lj hi hj hli hlj hg
        · rw [mergeF_out (fun k => tj (.inl k)) (fun k => tj (.inr k))] at hj
          exact absurd ⟨i, li, hi, hli, hg⟩ (named j lj tj hj hlj).2.2
      · rw [mergeF_out (fun k => ti (.inl k)) (fun k => ti (.inr k))] at hi
        by_cases tj : j ∈ F ∨ (n ≤ j ∧ j < m)
        · rw [mergeF_in tj] at hj
          exact absurd ⟨j, lj, hj, hlj, hg.symm⟩ (named i li ti hi hli).2.2
        · rw [mergeF_out (fun k => tj (.inl k)) (fun k => tj (.inr k))] at hj
          exact hh.inj i j li lj hi hj (named i li ti hi hli).1 (named j lj tj hj hlj).1 hg
  · exact k.os
  · exact k.tape
  · exact k.output
  · exact k.size
  · intro g hg hn
    refine k.block g hg fun hnm => hn ?_
    obtain ⟨i, l, _, h1, h2, h3⟩ := hnm.only
    exact ⟨i, l, h1, h2, h3⟩
  · rintro g ⟨i, l, hi, hl, rfl⟩
    by_cases ti : i ∈ F ∨ (n ≤ i ∧ i < m)
    · rw [mergeF_in ti] at hi
      rcases k.own _ ⟨i, l, hi, hl, rfl⟩ with h3 | h3
      · exact .inl h3
      · obtain ⟨i, l, _, h1, h2, h3⟩ := h3.only
        exact .inr ⟨i, l, h1, h2, h3⟩
    · rw [mergeF_out (fun k => ti (.inl k)) (fun k => ti (.inr k))] at hi
      exact .inr ⟨i, l, hi, (named i l ti hi hl).1, rfl⟩

/-- A step within the names from n0 to before nm. -/
theorem Goes.widen {ρ₁ ρ₂ ρ₃ : Ren} {h₁ h₂ h₃ : Mem} {n0 nm n m : Nat} {w₁ w₂ w₃ : World} (a : Goes ρ₁ h₁ n0 w₁ ρ₂ h₂ nm w₂) (b : Goes ρ₂ h₂ n w₂ ρ₃ h₃ m w₃) (hn : n0 ≤ n) (hm : m ≤ nm) :
    Goes ρ₁ h₁ n0 w₁ ρ₃ h₃ nm w₃ where
  le := a.le
  ext i hi := by
    have := b.le
    rw [b.ext i (by omega), a.ext i (by omega)]
  rel := b.rel
  os := b.os.trans a.os
  tape := b.tape.trans a.tape
  output := b.output.trans a.output
  size := Nat.le_trans a.size b.size
  block g hg hn := by
    rw [b.block g (Nat.lt_of_lt_of_le hg a.size) (fun h => ?_), a.block g hg hn]
    rcases a.own g h with h | h
    · omega
    · exact hn h
  own g h := by
    rcases b.own g h with h | h
    · exact .inl (Nat.le_trans a.size h)
    · exact a.own g h

/-- One operation of a region as it was evaluated. -/
structure It where
  o : Oper
  r : Rec
  p : List Nat
  v : Value
  post : Mem
  ins : Option MapEntry

def foldL {β : Type} (T : It → Nat → Bool) (g : It → Nat → β → β) (L : Nat → Bool) : Nat → List It → (Nat → β) → Nat → β
  | _, [], h => h
  | k, x :: l, h => foldL T g L (k + 1) l (fun i => if L k && T x i then g x i (h i) else h i)

section
variable {β : Type} {T : It → Nat → Bool} {g : It → Nat → β → β}

theorem fold_agree {L L' : Nat → Bool} {i : Nat} : ∀ {l : List It} {k : Nat} {h h' : Nat → β}, (∀ j x, l[j]? = some x → T x i = true → L (k + j) = L' (k + j)) → h i = h' i → foldL T g L k l h i = foldL T g L' k l h' i
  | [], k, h, h', _, e => e
  | x :: l, k, h, h', ha, e => by
    unfold foldL
    refine fold_agree (fun j y hy ht => ?_) ?_
    · have := ha (j + 1) y (by simpa using hy) ht
      rw [show k + 1 + j = k + (j + 1) by omega]; exact this
    · cases ht : T x i with
      | false => simpa using e
      | true =>
        have := ha 0 x (by simp) ht
        rw [Nat.add_zero] at this
        rw [this, e]

theorem fold_none {L : Nat → Bool} {i : Nat} : ∀ {l : List It} {k : Nat} {h : Nat → β}, (∀ j x, l[j]? = some x → L (k + j) = true → T x i = false) → foldL T g L k l h i = h i
  | [], k, h, _ => rfl
  | x :: l, k, h, ha => by
    unfold foldL
    rw [fold_none (fun j y hy ht => ha (j + 1) y (by simpa using hy) (by rw [show k + (j + 1) = k + 1 + j by omega]; exact ht))]
    cases hl : L k with
    | false => simp
    | true =>
      have := ha 0 x (by simp) (by simpa using hl)
      simp [this]

theorem fold_add {L : Nat → Bool} {i : Nat} {x : It} : ∀ {l : List It} {k j : Nat} {h : Nat → β}, l[j]? = some x → L (k + j) = false → (T x i = true → ∀ q y, j < q → l[q]? = some y → L (k + q) = true → T y i = false) →
    foldL T g (fun q => Nat.beq q (k + j) || L q) k l h i = if T x i then g x i (foldL T g L k l h i) else foldL T g L k l h i
  | [], k, j, h, hx, _, _ => by simp at hx
  | y :: l, k, 0, h, hx, hL, ha => by
    rw [Nat.add_zero] at hL
    have e : y = x := by simpa using hx
    subst e
    unfold foldL
    cases ht : T y i with
    | false =>
      rw [if_neg (by simp)]
      refine fold_agree (fun j z hz _ => ?_) (by simp [ht])
      have : Nat.beq (k + 1 + j) (k + 0) = false := by
        cases hb : Nat.beq (k + 1 + j) (k + 0) with
        | false => rfl
        | true => have := Nat.eq_of_beq_eq_true hb; omega
      rw [this, Bool.false_or]
    | true =>
      have later : ∀ (j : Nat) (z : It), l[j]? = some z → L (k + 1 + j) = true → T z i = false := by
        intro j z hz hl
        exact ha ht (j + 1) z (by omega) (by simpa using hz) (by rw [show k + (j + 1) = k + 1 + j by omega]; exact hl)
      rw [if_pos rfl, fold_none, fold_none (l := l) (L := L) later]
      · have : Nat.beq k (k + 0) = true := by rw [Nat.add_zero]; exact Nat.beq_refl k
        simp [ht, hL]
      · intro j z hz hl
        have hb : Nat.beq (k + 1 + j) (k + 0) = false := by
          cases hb : Nat.beq (k + 1 + j) (k + 0) with
          | false => rfl
          | true => have := Nat.eq_of_beq_eq_true hb; omega
        rw [hb, Bool.false_or] at hl
        exact later j z hz hl
  | y :: l, k, j + 1, h, hx, hL, ha => by
    unfold foldL
    have hb : Nat.beq k (k + (j + 1)) = false := by
      cases hb : Nat.beq k (k + (j + 1)) with
      | false => rfl
      | true => have := Nat.eq_of_beq_eq_true hb; omega
    rw [hb, Bool.false_or, show k + (j + 1) = k + 1 + j by omega]
    exact fold_add (by simpa using hx) (by rw [show k + 1 + j = k + (j + 1) by omega]; exact hL) fun ht q z hq hz hl => ha ht (q + 1) z (by omega) (by simpa using hz) (by rw [show k + (q + 1) = k + 1 + q by omega]; exact hl)

theorem fold_take {L : Nat → Bool} {i : Nat} : ∀ {l : List It} {k j : Nat} {h : Nat → β}, foldL T g L k (l.take j) h i = foldL T g (fun q => Nat.blt q (k + j) && L q) k l h i
  | [], k, j, h => by simp [foldL]
  | x :: l, k, 0, h => by
    rw [List.take_zero]
    show h i = _
    rw [fold_none]
    intro j y hy hl
    have : Nat.blt (k + j) (k + 0) = false := by
      cases hb : Nat.blt (k + j) (k + 0) with
      | false => rfl
      | true => rw [blt_iff] at hb; exact absurd (of_decide_eq_true hb) (by omega)
    rw [this] at hl; cases hl
  | x :: l, k, j + 1, h => by
    rw [List.take_succ_cons]
    unfold foldL
    have : Nat.blt k (k + (j + 1)) = true := by rw [blt_iff]; simp
    rw [this, Bool.true_and, fold_take, show k + 1 + j = k + (j + 1) by omega]

theorem fold_snoc {L : Nat → Bool} {i : Nat} {x : It} : ∀ {l : List It} {k : Nat} {h : Nat → β}, foldL T g L k (l ++ [x]) h i = if L (k + l.length) && T x i then g x i (foldL T g L k l h i) else foldL T g L k l h i
  | [], k, h => by simp [foldL]
  | y :: l, k, h => by
    rw [List.cons_append]
    unfold foldL
    rw [fold_snoc, List.length_cons, show k + 1 + l.length = k + (l.length + 1) by omega]
end

theorem fold_append {β : Type} {T : It → Nat → Bool} {g : It → Nat → β → β} {L : Nat → Bool} : ∀ {a b : List It} {k : Nat} {h : Nat → β}, foldL T g L k (a ++ b) h = foldL T g L (k + a.length) b (foldL T g L k a h)
  | [], b, k, h => rfl
  | x :: a, b, k, h => by
    rw [List.cons_append]
    show foldL T g L (k + 1) (a ++ b) _ = _
    rw [fold_append, List.length_cons, show k + 1 + a.length = k + (a.length + 1) by omega]
    rfl

/-! Entries that are put into a map in any order. -/

/-- The same but for the order of the entries of a map. -/
inductive Sim : Option RO → Option RO → Prop
  | refl (o : Option RO) : Sim o o
  | perm {a b : List MapEntry} (p : a.Perm b) : Sim (some (.pmap a)) (some (.pmap b))

theorem Sim.trans {a b c : Option RO} (h : Sim a b) (k : Sim b c) : Sim a c := by
  cases h with
  | refl => exact k
  | perm p => cases k with
    | refl => exact .perm p
    | perm q => exact .perm (p.trans q)

theorem Sim.orel {ρ : Ren} {l : Loc} {o o2 : RO} {o' : Obj} (s : Sim (some o) (some o2)) (h : ORel ρ l o o') : ORel ρ l o2 o' := by
  cases s with
  | refl => exact h
  | perm p => cases h with
    | pmap h q =>
      obtain ⟨b', h1, h2⟩ := h.perm p
      exact .pmap h1 (h2.symm.trans q)

theorem Sim.none_iff {a b : Option RO} (s : Sim a b) : a = none ↔ b = none := by
  cases s with
  | refl => exact Iff.rfl
  | perm p => simp

theorem Goes.sim {ρ ρ' : Ren} {h h' h'' : Mem} {n n' : Nat} {w w' : World} (k : Goes ρ h n w ρ' h' n' w') (s : ∀ i, Sim (h' i) (h'' i)) : Goes ρ h n w ρ' h'' n' w' where
  le := k.le
  ext := k.ext
  rel := by
    constructor
    · intro i o ho
      cases h1 : h' i with
      | none => have := (s i).none_iff.1 h1; rw [ho] at this; cases this
      | some o1 =>
        obtain ⟨l, o', a, b, c⟩ := k.rel.at_ i o1 h1
        have si := s i
        rw [h1, ho] at si
        exact ⟨l, o', a, b, si.orel c⟩
    · intro i j li lj hi hj
      exact k.rel.inj i j li lj (fun e => hi ((s i).none_iff.1 e)) (fun e => hj ((s j).none_iff.1 e))
  os := k.os
  tape := k.tape
  output := k.output
  size := k.size
  block := k.block
  own := by
    rintro g ⟨i, l, hi, h1, h2⟩
    exact k.own g ⟨i, l, fun e => hi ((s i).none_iff.1 e), h1, h2⟩

def insO (e : MapEntry) (p : Option RO) : Option RO :=
  match entAt p with
  | some es => some (.pmap (es ++ [e]))
  | none => p

theorem insO_some {e : MapEntry} {p : Option RO} {es : List MapEntry} (h : entAt p = some es) : insO e p = some (.pmap (es ++ [e])) := by unfold insO; rw [h]
theorem insO_none {e : MapEntry} {p : Option RO} (h : entAt p = none) : insO e p = p := by unfold insO; rw [h]

theorem Sim.ins {a b : Option RO} (s : Sim a b) (e : MapEntry) : Sim (insO e a) (insO e b) := by
  cases s with
  | refl => exact .refl _
  | perm p => rw [insO_some rfl, insO_some rfl]; exact .perm (p.append_right [e])

theorem ins_comm (e f : MapEntry) (p : Option RO) : Sim (insO e (insO f p)) (insO f (insO e p)) := by
  cases h : entAt p with
  | none => rw [insO_none h, insO_none h, insO_none h]; exact .refl _
  | some es =>
    rw [insO_some h, insO_some h, insO_some rfl, insO_some rfl]
    refine .perm ?_
    rw [List.append_assoc, List.append_assoc]
    exact (List.Perm.swap e f []).append_left es

noncomputable section

def TM (x : It) (i : Nat) : Bool := memN i x.r.W || (Nat.ble x.r.n i && Nat.blt i x.r.m)
def GM (x : It) (i : Nat) (p : Option RO) : Option RO :=
  match x.ins with
  | none => x.post i
  | some e => insO e p

/-- The second one has no other entries. -/
def Under (a b : Option RO) : Prop := a = b ∨ ∃ es1 es2, entAt a = some es1 ∧ entAt b = some es2 ∧ ∀ e ∈ es2, e ∈ es1

theorem Under.both {a b : Option RO} (h : Under a b) (e : MapEntry) : Under (insO e a) (insO e b) := by
  rcases h with rfl | ⟨es1, es2, h1, h2, h3⟩
  · exact .inl rfl
  · refine .inr ⟨es1 ++ [e], es2 ++ [e], by rw [insO_some h1]; rfl, by rw [insO_some h2]; rfl, fun x hx => ?_⟩
    rcases List.mem_append.1 hx with hx | hx
    · exact List.mem_append_left _ (h3 x hx)
    · exact List.mem_append_right _ hx

theorem Under.left {a b : Option RO} (h : Under a b) (e : MapEntry) : Under (insO e a) b := by
  rcases h with rfl | ⟨es1, es2, h1, h2, h3⟩
  · cases h : entAt a with
    | none => rw [insO_none h]; exact .inl rfl
    | some es => exact .inr ⟨es ++ [e], es, by rw [insO_some h]; rfl, h, fun x hx => List.mem_append_left _ hx⟩
  · exact .inr ⟨es1 ++ [e], es2, by rw [insO_some h1]; rfl, h2, fun x hx => List.mem_append_left _ (h3 x hx)⟩

theorem fold_under {L : Nat → Bool} {i : Nat} : ∀ {l : List It} {k : Nat} {h h' : Mem}, (∀ q y, l[q]? = some y → TM y i = true → L (k + q) = true ∨ ∃ e, y.ins = some e) → Under (h i) (h' i) → Under (foldL TM GM (fun _ => true) k l h i) (foldL TM GM L k l h' i)
  | [], k, h, h', _, u => u
  | y :: l, k, h, h', ha, u => by
    unfold foldL
    refine fold_under (fun q z hz ht => ?_) ?_
    · have := ha (q + 1) z (by simpa using hz) ht
      rw [show k + 1 + q = k + (q + 1) by omega]; exact this
    · cases ht : TM y i with
      | false => simpa using u
      | true =>
        have h0 := ha 0 y (by simp) ht
        rw [Nat.add_zero] at h0
        cases hy : y.ins with
        | none =>
          have hl : L k = true := by
            rcases h0 with h0 | ⟨e, he⟩
            · exact h0
            · rw [hy] at he; cases he
          have e1 : ∀ p, GM y i p = y.post i := fun p => by unfold GM; rw [hy]
          rw [hl, e1, e1]; exact .inl rfl
        | some e =>
          have e1 : ∀ p, GM y i p = insO e p := fun p => by unfold GM; rw [hy]
          cases hl : L k with
          | true => rw [e1, e1]; exact u.both e
          | false => rw [e1]; exact u.left e

theorem fold_clear {C : MapEntry → Prop} {L : Nat → Bool} {i : Nat} : ∀ {l : List It} {k : Nat} {h : Mem}, (∀ q y, l[q]? = some y → TM y i = true → L (k + q) = true → ∃ e, y.ins = some e ∧ C e) → (∃ es, entAt (h i) = some es ∧ ∀ e ∈ es, C e) →
    ∃ es, entAt (foldL TM GM L k l h i) = some es ∧ ∀ e ∈ es, C e
  | [], k, h, _, u => u
  | y :: l, k, h, ha, u => by
    unfold foldL
    refine fold_clear (fun q z hz ht hl => ha (q + 1) z (by simpa using hz) ht (by rw [show k + (q + 1) = k + 1 + q by omega]; exact hl)) ?_
    by_cases hc : (L k && TM y i) = true
    · rw [if_pos hc]
      rw [Bool.and_eq_true] at hc
      obtain ⟨e, h1, h2⟩ := ha 0 y (by simp) hc.2 hc.1
      obtain ⟨es, h3, h4⟩ := u
      have e1 : GM y i (h i) = insO e (h i) := by unfold GM; rw [h1]
      rw [e1, insO_some h3]
      refine ⟨_, rfl, fun x hx => ?_⟩
      rcases List.mem_append.1 hx with hx | hx
      · exact h4 x hx
      · rw [List.mem_singleton] at hx; subst hx; exact h2
    · rw [if_neg hc]; exact u

theorem fold_later {L L' : Nat → Bool} {i : Nat} {e : MapEntry} : ∀ {l : List It} {k : Nat} {h h' : Mem}, (∀ q, k ≤ q → L' q = L q) → (∀ q y, l[q]? = some y → TM y i = true → L (k + q) = true → ∃ f, y.ins = some f) → Sim (insO e (h i)) (h' i) →
    Sim (insO e (foldL TM GM L k l h i)) (foldL TM GM L' k l h' i)
  | [], k, h, h', _, _, u => u
  | y :: l, k, h, h', hL, ha, u => by
    unfold foldL
    refine fold_later (fun q hq => hL q (by omega)) (fun q z hz ht hl => ha (q + 1) z (by simpa using hz) ht (by rw [show k + (q + 1) = k + 1 + q by omega]; exact hl)) ?_
    rw [hL k (Nat.le_refl _)]
    by_cases hc : (L k && TM y i) = true
    · rw [if_pos hc, if_pos hc]
      rw [Bool.and_eq_true] at hc
      obtain ⟨f, h1⟩ := ha 0 y (by simp) hc.2 hc.1
      have e1 : ∀ p, GM y i p = insO f p := fun p => by unfold GM; rw [h1]
      rw [e1, e1]
      exact (ins_comm e f _).trans (u.ins f)
    · rw [if_neg hc, if_neg hc]; exact u

theorem fold_add_ins {L : Nat → Bool} {i : Nat} {x : It} {e : MapEntry} (hxe : x.ins = some e) (hT : TM x i = true) : ∀ {l : List It} {k j : Nat} {h : Mem}, l[j]? = some x → L (k + j) = false → (∀ q y, j < q → l[q]? = some y → TM y i = true → L (k + q) = true → ∃ f, y.ins = some f) →
    Sim (insO e (foldL TM GM L k l h i)) (foldL TM GM (fun q => Nat.beq q (k + j) || L q) k l h i)
  | [], k, j, h, hx, _, _ => by simp at hx
  | y :: l, k, 0, h, hx, hL, ha => by
    rw [Nat.add_zero] at hL
    have e0 : y = x := by simpa using hx
    subst e0
    have hb : Nat.beq k (k + 0) = true := by rw [Nat.add_zero]; exact Nat.beq_refl k
    have e1 : ∀ p, GM y i p = insO e p := fun p => by unfold GM; rw [hxe]
    unfold foldL
    refine fold_later (fun q hq => ?_) (fun q z hz ht hl => ha (q + 1) z (by omega) (by simpa using hz) ht (by rw [show k + (q + 1) = k + 1 + q by omega]; exact hl)) ?_
    · have : Nat.beq q (k + 0) = false := by
        cases hb : Nat.beq q (k + 0) with
        | false => rfl
        | true => have := Nat.eq_of_beq_eq_true hb; omega
      rw [this]; rfl
    · rw [hL, hb, hT, e1]; exact .refl _
  | y :: l, k, j + 1, h, hx, hL, ha => by
    unfold foldL
    have hb : Nat.beq k (k + (j + 1)) = false := by
      cases hb : Nat.beq k (k + (j + 1)) with
      | false => rfl
      | true => have := Nat.eq_of_beq_eq_true hb; omega
    rw [hb, Bool.false_or, show k + (j + 1) = k + 1 + j by omega]
    exact fold_add_ins hxe hT (by simpa using hx) (by rw [show k + 1 + j = k + (j + 1) by omega]; exact hL) fun q z hq hz ht hl => ha (q + 1) z (by omega) (by simpa using hz) ht (by rw [show k + (q + 1) = k + 1 + q by omega]; exact hl)

end
end Go.Ev
end

