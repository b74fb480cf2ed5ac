/- A ground evaluator for closed calls, part Rf: code, and the law. -/
import Derived.Test.YtggcnnpklkmeoaaGreatDoorEQ
section
namespace Go.Ev
open Go.RowKit

theorem steps_tail {P : Program} {m m1 m' : Machine} (h : step P m = .next m1) (s : Steps P m m') (hne : m ≠ m') : Steps P m1 m' := by
  obtain ⟨n, hn⟩ := s
  cases n with
  | zero => simp [runN] at hn; exact absurd hn hne
  | succ n => simp only [runN, h] at hn; exact ⟨n, hn⟩

theorem fat_ne {b b' : Frame} {tm tm' : Array Value} {k k' : List Item} {cs : List Frame} {w w' : World} (h : k ≠ k') : lone (fat b tm k) cs w ≠ lone (fat b' tm' k') cs w' := by
  intro e
  have : (lone (fat b tm k) cs w).gs = (lone (fat b' tm' k') cs w').gs := by rw [e]
  simp [lone, fat] at this
  exact h this.2.2.1

/-- What comes behind a loop comes behind its next round. -/
theorem Arr.of_loop {P : Program} {x : X} {b b0 : Frame} {tm tm' : Array Value} {k : List Item} {cs : List Frame} {w w' : World} {body : Code} (a : Arr P x b tm' k cs (lone (fat b0 tm (.code (.loop body) :: k)) cs w) w') :
    Arr P x b tm' k cs (lone (fat b0 tm (.inLoop body :: k)) cs w) w' := by
  have key : ∀ k', (.code (.loop body) :: k) ≠ k' → Steps P (lone (fat b0 tm (.code (.loop body) :: k)) cs w) (lone (fat b tm' k') cs w') → Steps P (lone (fat b0 tm (.inLoop body :: k)) cs w) (lone (fat b tm' k') cs w') :=
    fun k' hne s => .head st_inLoop (steps_tail st_loop s (fat_ne hne))
  cases x with
  | normal => exact key k (by intro e; have := congrArg List.length e; simp at this) a
  | exit id => obtain ⟨t', e, s⟩ := a; exact ⟨t', e, key _ (by simp) s⟩
  | ret => obtain ⟨t', s⟩ := a; exact ⟨t', key _ (by simp) s⟩

/-- One part of code behind another one. -/
theorem seq_ok {E : Env} {code : CodeT} (hc : CodeOK E code) {N : Nat} {rd : Option Nat} {c1 : Code} {st : St} {r outs : List (X × List Nat × St)} {c2 : Code}
    (h1 : code N rd c1 st = .ok r) (h2 : nextL (code N rd c2) r = .ok outs) (c : Code) (mid : Item) (hx : ∀ id k, exitTo id (mid :: k) = exitTo id k)
    (hstart : ∀ b tm k cs w, step E.P (lone (fat b tm (.code c :: k)) cs w) = .next (lone (fat b tm (.code c1 :: mid :: k)) cs w))
    (hmid : ∀ x b b0 tm tm' k cs w w', Arr E.P x b tm' k cs (lone (fat b0 tm (.code c2 :: k)) cs w) w' → Arr E.P x b tm' k cs (lone (fat b0 tm (mid :: k)) cs w) w') :
    outs ≠ [] ∧ (∀ o ∈ outs, st.n ≤ o.2.2.n) ∧
    (N ≤ 1000000 → ∀ (nb : Nat) (fi : FuncId) (ro : Option Nat) (ρ : Ren) (w : World) (tm : Array Value), (∀ o ∈ outs, o.2.2.n ≤ nb) → tm.size = N → Base E ρ st.n → SRel ρ st.σ tm → HRel ρ (getR st.h) w → InRound ρ rd ro → Fresh ρ st.n nb → ∀ (b : Frame) (k : List Item) (cs : List Frame), b.fn = fi → b.roundOf = ro →
      ∃ o ∈ outs, ∃ ρ' w' tm' ds, Goes ρ (getR st.h) st.n w ρ' (getR o.2.2.h) o.2.2.n w' ∧ SRel ρ' o.2.2.σ tm' ∧ tm'.size = N ∧ Marks ρ' o.2.1 ds ∧
        Arr E.P o.1 (bd b ds) tm' k cs (lone (fat b tm (.code c :: k)) cs w) w') := by
  obtain ⟨a1, a2, a3⟩ := hc _ _ _ _ _ h1
  obtain ⟨p, q⟩ := nextL_ok h2
  have hne : outs ≠ [] := by
    obtain ⟨o, ho⟩ := List.exists_mem_of_ne_nil r a1
    rcases p o ho with ⟨ds, st1, _, l2, hl2, hm⟩ | ⟨_, hm⟩
    · obtain ⟨b1, _, _⟩ := hc _ _ _ _ _ hl2
      obtain ⟨o2, ho2⟩ := List.exists_mem_of_ne_nil l2 b1
      intro e
      have := hm o2 ho2
      rw [e] at this; cases this
    · intro e; rw [e] at hm; cases hm
  refine ⟨hne, fun o ho => ?_, fun hN nb fi ro ρ w tm hnb hz hb hs hh hro hf b k cs hbf hbr => ?_⟩
  · rcases q o ho with ⟨ds, st1, l2, q', hr, hl2, hq', rfl⟩ | hr
    · obtain ⟨_, b2, _⟩ := hc _ _ _ _ _ hl2
      have := a2 _ hr
      have := b2 _ hq'
      dsimp only at *
      omega
    · exact a2 o hr
  · have hnb1 : ∀ o ∈ r, o.2.2.n ≤ nb := by
      intro o ho
      rcases p o ho with ⟨ds, st1, e, l2, hl2, hm⟩ | ⟨_, hm⟩
      · obtain ⟨b1, b2, _⟩ := hc _ _ _ _ _ hl2
        obtain ⟨o2, ho2⟩ := List.exists_mem_of_ne_nil l2 b1
        have k1 := b2 o2 ho2
        have k2 := hnb _ (hm o2 ho2)
        subst e
        dsimp only at *
        omega
      · exact hnb o hm
    obtain ⟨o, ho, ρ1, w1, tm1, ds1, g1, s1, z1, m1, arr1⟩ := a3 hN nb fi ro ρ w tm hnb1 hz hb hs hh hro hf b (mid :: k) cs hbf hbr
    have hfo : Fresh ρ st.n o.2.2.n := hf.left (hnb1 o ho)
    have gr1 := g1.grows hfo
    rcases p o ho with ⟨dn, st1, rfl, l2, hl2, hm⟩ | ⟨hx2, hm⟩
    · obtain ⟨_, _, b3⟩ := hc _ _ _ _ _ hl2
      have hf1 : Fresh ρ1 st1.n nb := g1.fresh hf
      obtain ⟨o2, ho2, ρ2, w2, tm2, ds2, g2, s2, z2, m2, arr2⟩ := b3 hN nb fi ro ρ1 w1 tm1 (fun o2 ho2 => hnb (o2.1, o2.2.1 ++ dn, o2.2.2) (hm o2 ho2)) z1 (hb.goes g1) s1 g1.rel (hro.mono gr1) hf1 (bd b ds1) k cs hbf hbr
      have gr2 := g2.grows (hf1.left (hnb (o2.1, o2.2.1 ++ dn, o2.2.2) (hm o2 ho2)))
      refine ⟨_, hm o2 ho2, ρ2, w2, tm2, ds2 ++ ds1, g1.trans g2, s2, z2, Marks.append (m1.mono gr2) m2, ?_⟩
      have A := arr1
      have B := hmid _ _ _ _ _ k cs _ _ arr2
      rw [bd_bd] at B
      exact Arr.of_steps (.head (hstart b tm k cs w) A) B
    · refine ⟨o, hm, ρ1, w1, tm1, ds1, g1, s1, z1, m1, ?_⟩
      have A := arr1
      refine Arr.of_steps (.one (hstart b tm k cs w)) ?_
      obtain ⟨x, dn, st1⟩ := o
      cases x with
      | normal => exact absurd rfl hx2
      | exit id => obtain ⟨t', e, s⟩ := A; exact ⟨t', e.trans (hx id k), s⟩
      | ret => exact A

theorem endL_mem {id : Nat} : ∀ {l : List (X × List Nat × St)} {o : X × List Nat × St}, o ∈ endL id l ↔ ∃ q ∈ l, o = endX id q
  | [], o => by
    have : endL id [] = [] := rfl
    rw [this]; simp
  | x :: l, o => by
    have e : endL id (x :: l) = endX id x :: endL id l := rfl
    rw [e, List.mem_cons, endL_mem]
    simp

theorem endX_st (id : Nat) (q : X × List Nat × St) : (endX id q).2 = q.2 := by
  unfold endX
  split
  · rw [cond_eq_ite]; split <;> rfl
  · rfl

theorem stepCode_ok {E : Env} (ok : EnvOK E) {code : CodeT} (hc : CodeOK E code) : CodeOK E (stepCode E code) := by
  intro N rd c st outs he
  have one : ∀ {x : X}, outs = [(x, [], st)] → (∀ b tm k cs w, Arr E.P x b tm k cs (lone (fat b tm (.code c :: k)) cs w) w) → outs ≠ [] ∧ (∀ o ∈ outs, st.n ≤ o.2.2.n) ∧
    (N ≤ 1000000 → ∀ (nb : Nat) (fi : FuncId) (ro : Option Nat) (ρ : Ren) (w : World) (tm : Array Value), (∀ o ∈ outs, o.2.2.n ≤ nb) → tm.size = N → Base E ρ st.n → SRel ρ st.σ tm → HRel ρ (getR st.h) w → InRound ρ rd ro → Fresh ρ st.n nb → ∀ (b : Frame) (k : List Item) (cs : List Frame), b.fn = fi → b.roundOf = ro →
      ∃ o ∈ outs, ∃ ρ' w' tm' ds, Goes ρ (getR st.h) st.n w ρ' (getR o.2.2.h) o.2.2.n w' ∧ SRel ρ' o.2.2.σ tm' ∧ tm'.size = N ∧ Marks ρ' o.2.1 ds ∧
        Arr E.P o.1 (bd b ds) tm' k cs (lone (fat b tm (.code c :: k)) cs w) w') := by
    rintro x rfl harr
    refine ⟨by simp, fun o ho => by rw [List.mem_singleton] at ho; subst ho; exact Nat.le_refl _, fun _ nb fi ro ρ w tm _ hz hb hs hh _ _ b k cs _ _ => ?_⟩
    exact ⟨_, List.mem_singleton.2 rfl, ρ, w, tm, [], Goes.refl hh, hs, hz, .nil, harr b tm k cs w⟩
  unfold stepCode at he
  split at he
  · injection he with he
    exact one he.symm fun b tm k cs w => .one st_skip
  · injection he with he
    exact one he.symm fun b tm k cs w => .one st_label
  · rename_i id ops d
    split at he
    · have hr := regionOn_ok ok (callWith_ok ok hc) ops he
      refine ⟨hr.some, hr.le, fun hN nb fi ro ρ w tm hnb hz hb hs hh hro hf b k cs _ _ => ?_⟩
      obtain ⟨o, ho, ρ', w', tm', g, s, z, arr⟩ := hr.run hN nb ρ w tm hnb hz hb hs hh hf b k cs
      obtain ⟨e1, e2⟩ := hr.plain o ho
      refine ⟨o, ho, ρ', w', tm', [], g, s, z, by rw [e2]; exact .nil, ?_⟩
      rw [e1]
      exact .head st_region arr
    · obtain ⟨st1, hr, rfl⟩ := ended_ok he
      have hle := drawOps_mono ok (callWith_ok ok hc) (i := 0) rfl hr
      refine ⟨by simp, fun o ho => by rw [List.mem_singleton] at ho; subst ho; exact hle, fun hN nb fi ro ρ w tm hnb hz hb hs hh hro hf b k cs hbf _ => ?_⟩
      have hn := hnb _ (List.mem_singleton.2 rfl)
      obtain ⟨ρ', w', tm', g, s, z, arr⟩ := drawOps_ok ok ok.mixed (callWith_ok ok hc) hN hr hz hb hs hh (hf.left hn) (fn := fi) (id := id) b k cs hbf
      exact ⟨_, List.mem_singleton.2 rfl, ρ', w', tm', [], g, s, z, .nil, arr⟩
  · rename_i a b2
    unfold andThen at he
    split at he
    · rename_i l hl
      exact seq_ok hc hl he (.seq a b2) (.code b2) (fun id k => rfl) (fun b tm k cs w => st_seq) (fun x b b0 tm tm' k cs w w' h => h)
    · cases he
  · rename_i c0 x1 y1
    split at he
    · rename_i t ht
      have both : ∀ cc, code N rd cc st = .ok outs → (t = true ∧ cc = x1 ∨ t = false ∧ cc = y1) → outs ≠ [] ∧ (∀ o ∈ outs, st.n ≤ o.2.2.n) ∧
        (N ≤ 1000000 → ∀ (nb : Nat) (fi : FuncId) (ro : Option Nat) (ρ : Ren) (w : World) (tm : Array Value), (∀ o ∈ outs, o.2.2.n ≤ nb) → tm.size = N → Base E ρ st.n → SRel ρ st.σ tm → HRel ρ (getR st.h) w → InRound ρ rd ro → Fresh ρ st.n nb → ∀ (b : Frame) (k : List Item) (cs : List Frame), b.fn = fi → b.roundOf = ro →
          ∃ o ∈ outs, ∃ ρ' w' tm' ds, Goes ρ (getR st.h) st.n w ρ' (getR o.2.2.h) o.2.2.n w' ∧ SRel ρ' o.2.2.σ tm' ∧ tm'.size = N ∧ Marks ρ' o.2.1 ds ∧
            Arr E.P o.1 (bd b ds) tm' k cs (lone (fat b tm (.code (.cond c0 x1 y1) :: k)) cs w) w') := by
        intro cc hcc ht2
        obtain ⟨m1, m2, p1⟩ := hc _ _ _ _ _ hcc
        refine ⟨m1, m2, fun hN nb fi ro ρ w tm hnb hz hb hs hh hro hf b k cs hbf hbr => ?_⟩
        obtain ⟨o, ho, ρ1, w1, tm1, ds, g1, s1, z1, mk, a1⟩ := p1 hN nb fi ro ρ w tm hnb hz hb hs hh hro hf b k cs hbf hbr
        refine ⟨o, ho, ρ1, w1, tm1, ds, g1, s1, z1, mk, Arr.of_steps (.one ?_) a1⟩
        have hcond := st_cond (P := E.P) (b := b) (k := k) (cs := cs) (w := w) (x := x1) (y := y1) (t := t) (VRel.eq_of_flat rfl (opnd_rel hb hs ht))
        rcases ht2 with ⟨rfl, rfl⟩ | ⟨rfl, rfl⟩
        · exact hcond
        · exact hcond
      split at he
      · exact both _ he (.inl ⟨rfl, rfl⟩)
      · exact both _ he (.inr ⟨rfl, rfl⟩)
    · cases he
  · rename_i id body
    unfold endBlock at he
    split at he
    · rename_i l hl
      injection he with he; subst he
      obtain ⟨m1, m2, p1⟩ := hc _ _ _ _ _ hl
      refine ⟨?_, fun o ho => ?_, fun hN nb fi ro ρ w tm hnb hz hb hs hh hro hf b k cs hbf hbr => ?_⟩
      · obtain ⟨o, ho⟩ := List.exists_mem_of_ne_nil l m1
        intro e
        have := (endL_mem (id := id) (l := l)).2 ⟨o, ho, rfl⟩
        rw [e] at this; cases this
      · obtain ⟨q, hq, rfl⟩ := endL_mem.1 ho
        rw [endX_st]; exact m2 q hq
      · obtain ⟨o, ho, ρ1, w1, tm1, ds, g1, s1, z1, mk, a1⟩ := p1 hN nb fi ro ρ w tm (fun q hq => by
          have := hnb _ (endL_mem.2 ⟨q, hq, rfl⟩)
          rw [endX_st] at this; exact this) hz hb hs hh hro hf b (.inBlock id :: k) cs hbf hbr
        refine ⟨endX id o, endL_mem.2 ⟨o, ho, rfl⟩, ρ1, w1, tm1, ds, by rw [endX_st]; exact g1, by rw [endX_st]; exact s1, z1, by rw [endX_st]; exact mk, ?_⟩
        have A := a1
        obtain ⟨x, dn, st1⟩ := o
        cases x with
        | normal => exact .head st_block (Steps.trans A (.one st_inBlock))
        | ret => obtain ⟨t', s⟩ := A; exact ⟨t', .head st_block s⟩
        | exit j =>
          obtain ⟨t', e, s⟩ := A
          by_cases hj : j = id
          · subst hj
            have e1 : (endX j (X.exit j, dn, st1)).1 = .normal := by
              show (bif Nat.beq j j then (X.normal, dn, st1) else (X.exit j, dn, st1)).1 = _
              rw [Nat.beq_refl]; rfl
            rw [e1]
            have e' : exitTo j t' = some k := by rw [e]; simp [exitTo]
            exact .head st_block (s.trans (.one (st_exit e')))
          · have e1 : (endX id (X.exit j, dn, st1)).1 = .exit j := by
              show (bif Nat.beq j id then (X.normal, dn, st1) else (X.exit j, dn, st1)).1 = _
              rw [beq_iff, decide_eq_false hj]; rfl
            rw [e1]
            refine ⟨t', ?_, .head st_block s⟩
            rw [e]
            have : (id == j) = false := by rw [beq_eq_false_iff_ne]; exact fun h => hj h.symm
            simp [exitTo, this]
    · cases he
  · rename_i body
    unfold andThen at he
    split at he
    · rename_i l hl
      exact seq_ok hc hl he (.loop body) (.inLoop body) (fun id k => rfl) (fun b tm k cs w => st_loop) (fun x b b0 tm tm' k cs w w' h => h.of_loop)
    · cases he
  · rename_i f ps assign body
    obtain ⟨o, rfl, hle, hrun⟩ := rangeOn_ok ok (callWith_ok ok hc) he
    refine ⟨by simp, fun q hq => by rw [List.mem_singleton] at hq; subst hq; exact hle, fun hN nb fi ro ρ w tm hnb hz hb hs hh hro hf b k cs hbf hbr => ?_⟩
    obtain ⟨ρ', w', ds, g, s, mk, arr⟩ := hrun fi ro ρ w tm hN hz hb hs hh hro (hf.left (hnb _ (List.mem_singleton.2 rfl))) b k cs hbf hbr
    exact ⟨o, List.mem_singleton.2 rfl, ρ', w', tm, ds, g, s, hz, mk, arr⟩
  · rename_i id
    injection he with he
    exact one he.symm fun b tm k cs w => ⟨k, rfl, .refl _ _⟩
  · injection he with he
    exact one he.symm fun b tm k cs w => ⟨k, .refl _ _⟩
  · rename_i body
    obtain ⟨m1, m2, p1⟩ := hc _ _ _ _ _ he
    refine ⟨m1, m2, fun hN nb fi ro ρ w tm hnb hz hb hs hh hro hf b k cs hbf hbr => ?_⟩
    obtain ⟨o, ho, ρ1, w1, tm1, ds, g1, s1, z1, mk, a1⟩ := p1 hN nb fi ro ρ w tm hnb hz hb hs hh hro hf b (.inScope body :: k) cs hbf hbr
    refine ⟨o, ho, ρ1, w1, tm1, ds, g1, s1, z1, mk, ?_⟩
    have A := a1
    obtain ⟨x, dn, st1⟩ := o
    cases x with
    | normal => exact .head st_scope (Steps.trans A (.one st_inScope))
    | ret => obtain ⟨t', s⟩ := A; exact ⟨t', .head st_scope s⟩
    | exit j => obtain ⟨t', e, s⟩ := A; exact ⟨t', by rw [e]; simp [exitTo], .head st_scope s⟩
  · cases he

theorem evalCode_ok {E : Env} (ok : EnvOK E) : ∀ fuel, CodeOK E (evalCode E fuel)
  | 0 => fun N rd c st outs h => by cases h
  | f + 1 => stepCode_ok ok (evalCode_ok ok f)

/-- THE LAW: an evaluated call is a call, and returns what was evaluated; nothing that was there before has turned. -/
theorem calls_of_eval {E : Env} (ok : EnvOK E) {fuel : Nat} {f : FuncId} {args : List Value} {n : Nat} {v : Value} {h' : Tr RO} {n' : Nat} (he : evalCall E fuel f args .e n = .ok (v, h', n'))
    (hn : E.P.globals.size ≤ n) (hfa : flats args = true) (hfv : flat2 v = true) (w : World) :
    Calls E.P f ⟨args⟩ w fun e w' => e = .returned v ∧ Below w.heap.size w w' := by
  obtain ⟨hle, h⟩ := callFn_ok ok (evalCode_ok ok fuel) he
  let ρ : Ren := fun i => if i < E.P.globals.size then some ⟨i, 0, 0, ⟨0, none, false⟩⟩ else none
  have hb : Base E ρ n := ⟨hn, fun g hg => ⟨⟨g, 0, 0, ⟨0, none, false⟩⟩, by simp [ρ, hg], rfl, rfl⟩⟩
  have hh : HRel ρ (getR (.e : Tr RO)) w := ⟨(fun i o ho => by cases ho), fun i j li lj h1 => absurd rfl h1⟩
  have hf : Fresh ρ n n' := fun i h1 _ => by simp [ρ]; omega
  intro cs
  obtain ⟨ρ', w', v', g, hv, hst⟩ := h ρ w args hb hh (VRels.of_flats hfa) hf cs
  have hv' := VRel.eq_of_flat2 hfv hv
  subst hv'
  obtain ⟨fr, s, e1, e2⟩ := hst
  exact ⟨.returned v', w', fr, ⟨rfl, g.below⟩, s, e1, e2⟩

/-- A call that is reckoned beforehand: it may stand in the table of another reckoning of the same program. -/
theorem memo_of_eval {E : Env} (ok : EnvOK E) {fuel : Nat} {f : FuncId} {M : Memo} (he : evalMemo E fuel f M.args M.F M.n = .ok (M.v, M.keep, M.m)) (hb : ∀ p ∈ M.keep, p.1 < big) : MemoOK E.P f M := by
  intro ρ w args' h1 h2 h3 h4
  obtain ⟨_, k⟩ := narrow_ok ok (evalCode_ok ok fuel) he hb
  exact k.fin ρ w args' h1 h2 h3 h4

end Go.Ev
end

section
/- A ground evaluator for closed calls, part S: tables that are right. -/
namespace Go.Ev

def AllTy (P : Program) : List (Nat × TI) → Prop
  | [] => True
  | p :: l => mkTI P p.1 = some p.2 ∧ AllTy P l

def AllFn (P : Program) : List (Nat × Func) → Prop
  | [] => True
  | p :: l => (P.funcs[p.1]? = some p.2 ∧ (p.2.name == "runtime.NumGoroutine") = false) ∧ AllFn P l

def AllX (P : Program) : List (Nat × (Array Value → Sem Value)) → Prop
  | [] => True
  | p :: l => XOK P p.1 p.2 ∧ AllX P l

def AllI (P : Program) : List Nat → Prop
  | [] => True
  | k :: l => XOK P k xSame ∧ AllI P l

/-- A method of a type, called by an interface: the function, with the value itself as the receiver. -/
def methB (P : Program) (t : TypeId) (name : String) (f : FuncId) : Bool :=
  match P.info? t, P.underlying t with
  | some j, some d => match j.methods.find? (·.name == name) with
    | some m => m.path.toList.isEmpty && (match m.func with
      | some (g, b) => Nat.beq g f && (match d with | .pointer _ => b | _ => !b)
      | none => false)
    | none => false
  | _, _ => false

theorem methB_ok {P : Program} {t : TypeId} {name : String} {f : FuncId} (h : methB P t name f = true) (v : Value) (w : World) : (method (P.types.size + Made.depth) t v name).run P w = .ok (f, v) w := by
  unfold methB at h
  split at h
  · rename_i j d hj hd
    split at h
    · rename_i m hm
      rw [Bool.and_eq_true] at h
      obtain ⟨h1, h2⟩ := h
      split at h2
      · rename_i g b hf
        rw [Bool.and_eq_true] at h2
        obtain ⟨h3, h4⟩ := h2
        have hg : g = f := Nat.eq_of_beq_eq_true h3
        subst hg
        have hpath : m.path.toList = [] := by simpa using h1
        obtain ⟨k, hk⟩ : ∃ k, P.types.size + Made.depth = k + 1 := ⟨P.types.size + Made.depth - 1, by
          have : 0 < Made.depth := by decide
          omega⟩
        have hinfo : (typeInfo t).run P w = .ok j w := by simp [typeInfo, program, hj, Sem.run]
        have hund : (underlying t).run P w = .ok d w := by simp [Go.underlying, program, hd, Sem.run]
        have hfol : (follow m.path.toList t (.val v)).run P w = .ok (t, .val v) w := by rw [hpath]; rfl
        have hrec : ∀ wr, (receiverAt t (.val v) b wr).run P w = .ok v w := by
          intro wr
          unfold receiverAt
          rw [Sem.run_bind, hund, Result.andThen_ok]
          cases d <;> cases b <;> first | rfl | cases h4
        rw [hk]
        unfold method
        simp only [Sem.run_bind, hinfo, Result.andThen_ok, hm, hfol, hf, hrec, Sem.run_pure]
      · cases h2
    · cases h
  · cases h

def AllMe (P : Program) : List (Nat × List (String × FuncId)) → Prop
  | [] => True
  | p :: l => (∀ q ∈ p.2, ∀ v w, (method (P.types.size + Made.depth) p.1 v q.1).run P w = .ok (q.2, v) w) ∧ AllMe P l

theorem AllMe.mem {P : Program} : ∀ {l : List (Nat × List (String × FuncId))}, AllMe P l → ∀ {k : Nat} {v : List (String × FuncId)}, (k, v) ∈ l → ∀ q ∈ v, ∀ u w, (method (P.types.size + Made.depth) k u q.1).run P w = .ok (q.2, u) w
  | p :: l, h, k, v, hm => by
    rcases List.mem_cons.1 hm with rfl | hm
    · exact h.1
    · exact AllMe.mem h.2 hm

def allB (P : Program) (t : TypeId) (l : List (String × FuncId)) : Bool := l.all fun q => methB P t q.1 q.2

theorem allB_ok {P : Program} {t : TypeId} {l : List (String × FuncId)} (h : allB P t l = true) : ∀ q ∈ l, ∀ v w, (method (P.types.size + Made.depth) t v q.1).run P w = .ok (q.2, v) w := by
  intro q hq v w
  unfold allB at h
  rw [List.all_eq_true] at h
  exact methB_ok (h q hq) v w

def AllN (P : Program) : List (Nat × TypeId) → Prop
  | [] => True
  | p :: l => NzOK P p.1 p.2 ∧ AllN P l

theorem AllN.mem {P : Program} : ∀ {l : List (Nat × TypeId)}, AllN P l → ∀ {k : Nat} {v : TypeId}, (k, v) ∈ l → NzOK P k v
  | p :: l, h, k, v, hm => by
    rcases List.mem_cons.1 hm with rfl | hm
    · exact h.1
    · exact AllN.mem h.2 hm

def AllM (P : Program) : List (Nat × List Memo) → Prop
  | [] => True
  | p :: l => (∀ M ∈ p.2, MemoOK P p.1 M) ∧ AllM P l

def keysOk {α : Type} : List (Nat × α) → Bool
  | [] => true
  | p :: l => Nat.blt p.1 big && keysOk l

theorem table_mem {α : Type} : ∀ {l : List (Nat × α)}, keysOk l = true → ∀ {k : Nat} {v : α}, getR (table l) k = some v → (k, v) ∈ l
  | [], _, k, v, h => by cases h
  | p :: l, hk, k, v, h => by
    simp only [keysOk, Bool.and_eq_true, blt_iff, decide_eq_true_eq] at hk
    have e : table (p :: l) = putR (table l) p.1 (some p.2) := rfl
    rw [e, getR_putR _ _ _ hk.1] at h
    split at h
    · rename_i he; injection h with h; subst h; subst he; exact List.mem_cons_self
    · exact List.mem_cons_of_mem _ (table_mem hk.2 h)

theorem AllTy.mem {P : Program} : ∀ {l : List (Nat × TI)}, AllTy P l → ∀ {k : Nat} {v : TI}, (k, v) ∈ l → mkTI P k = some v
  | p :: l, h, k, v, hm => by
    rcases List.mem_cons.1 hm with rfl | hm
    · exact h.1
    · exact AllTy.mem h.2 hm

theorem AllFn.mem {P : Program} : ∀ {l : List (Nat × Func)}, AllFn P l → ∀ {k : Nat} {v : Func}, (k, v) ∈ l → P.funcs[k]? = some v ∧ (v.name == "runtime.NumGoroutine") = false
  | p :: l, h, k, v, hm => by
    rcases List.mem_cons.1 hm with rfl | hm
    · exact h.1
    · exact AllFn.mem h.2 hm

theorem AllX.mem {P : Program} : ∀ {l : List (Nat × (Array Value → Sem Value))}, AllX P l → ∀ {k : Nat} {v : Array Value → Sem Value}, (k, v) ∈ l → XOK P k v
  | p :: l, h, k, v, hm => by
    rcases List.mem_cons.1 hm with rfl | hm
    · exact h.1
    · exact AllX.mem h.2 hm

theorem AllI.mem {P : Program} : ∀ {l : List Nat}, AllI P l → ∀ {k : Nat} {u : Unit}, (k, u) ∈ l.map (fun k => (k, ())) → XOK P k xSame
  | p :: l, h, k, u, hm => by
    rw [List.map_cons] at hm
    rcases List.mem_cons.1 hm with e | hm
    · injection e with e1 e2; subst e1; exact h.1
    · exact AllI.mem h.2 hm

theorem AllM.mem {P : Program} : ∀ {l : List (Nat × List Memo)}, AllM P l → ∀ {k : Nat} {v : List Memo}, (k, v) ∈ l → ∀ M ∈ v, MemoOK P k M
  | p :: l, h, k, v, hm => by
    rcases List.mem_cons.1 hm with rfl | hm
    · exact h.1
    · exact AllM.mem h.2 hm

theorem envOK {P : Program} {tys : List (Nat × TI)} {fns : List (Nat × Func)} {nd : Tr Unit} {ids : List Nat} {xs : List (Nat × (Array Value → Sem Value))} {mes : List (Nat × List (String × FuncId))} {nzs : List (Nat × TypeId)} (h1 : keysOk tys = true) (h2 : keysOk fns = true) (h3 : keysOk (ids.map fun k => (k, ())) = true) (h4 : keysOk xs = true) (h5 : keysOk mes = true) (hme : AllMe P mes) (h6 : keysOk nzs = true) (hn : AllN P nzs)
    (ht : AllTy P tys) (hf : AllFn P fns) (hi : AllI P ids) (hx : AllX P xs) (hm : P.follows .mixedOrders = true) : EnvOK ⟨P, table tys, table fns, nd, .e, table (ids.map fun k => (k, ())), table xs, table mes, table nzs⟩ :=
  ⟨fun f e h => hn.mem (table_mem h6 h), fun f u h => hi.mem (table_mem h3 h), fun f g h => hx.mem (table_mem h4 h), fun f l h => (by cases h), fun t l h => hme.mem (table_mem h5 h), fun t i h => ht.mem (table_mem h1 h), fun f fn h => hf.mem (table_mem h2 h), hm⟩

/-- The same tables, with calls whose answers are known. -/
noncomputable def withMemo (E : Env) (ms : List (Nat × List Memo)) : Env := { E with M := table ms }

theorem envMemo {E : Env} (ok : EnvOK E) {ms : List (Nat × List Memo)} (hk : keysOk ms = true) (hm : AllM E.P ms) : EnvOK (withMemo E ms) :=
  ⟨ok.nozero, ok.ident, ok.ext, fun _f _l h => hm.mem (table_mem hk h), ok.meth, ok.ty, ok.fn, ok.mixed⟩

def ansV : Ans (Value × Tr RO × Nat) → Option Value
  | .ok (v, _, _) => some v
  | .no _ _ => none

/-- The law, for a value that the kernel has reckoned. -/
theorem calls_of_ans {E : Env} (ok : EnvOK E) (fuel n : Nat) {f : FuncId} {args : List Value} {v : Value} (he : ansV (evalCall E fuel f args .e n) = some v)
    (hn : E.P.globals.size ≤ n) (hfa : flats args = true) (hfv : flat2 v = true) (w : World) :
    Calls E.P f ⟨args⟩ w fun e w' => e = .returned v ∧ Go.RowKit.Below w.heap.size w w' := by
  cases hr : evalCall E fuel f args .e n with
  | no a b => rw [hr] at he; cases he
  | ok p =>
    obtain ⟨u, h', n'⟩ := p
    rw [hr] at he; injection he with he; subst he
    exact calls_of_eval ok hr hn hfa hfv w

noncomputable def lowNames (l : List (Nat × Option RO)) : Bool := List.rec (motive := fun _ => Bool) true (fun p _ ih => Bool.rec false ih (Nat.blt p.1 big)) l

theorem lowNames_ok0 : lowNames [] = true := rfl

theorem lowNames_ok : ∀ {l : List (Nat × Option RO)}, lowNames l = true → ∀ p ∈ l, p.1 < big
  | [], _, p, h => by cases h
  | q :: l, h, p, hp => by
    have e : lowNames (q :: l) = (Bool.rec (motive := fun _ => Bool) false (lowNames l) (Nat.blt q.1 big)) := rfl
    rw [e, blt_iff] at h
    by_cases hq : q.1 < big
    · rw [decide_eq_true hq] at h
      rcases List.mem_cons.1 hp with rfl | hp
      · exact hq
      · exact lowNames_ok h p hp
    · rw [decide_eq_false hq] at h; cases h

/-- A call that the kernel has reckoned, for the table of another reckoning. -/
theorem memo_of_fits {E : Env} (ok : EnvOK E) (fuel : Nat) {f : FuncId} {M : Memo} (he : (fitsAns (evalMemo E fuel f M.args M.F M.n) M && lowNames M.keep) = true) : MemoOK E.P f M := by
  rw [Bool.and_eq_true] at he
  cases hr : evalMemo E fuel f M.args M.F M.n with
  | no a b => rw [hr] at he; cases he.1
  | ok p =>
    obtain ⟨v, l, m⟩ := p
    rw [hr] at he
    have h1 : (eqV 8 v M.v && eqL eqP l M.keep && Nat.beq m M.m) = true := he.1
    rw [Bool.and_eq_true, Bool.and_eq_true] at h1
    have e1 := eqV_eq 8 h1.1.1
    have e2 := eqL_eq (fun _ _ => eqP_eq) h1.1.2
    have e3 := Nat.eq_of_beq_eq_true h1.2
    subst e1; subst e2; subst e3
    exact memo_of_eval ok hr (lowNames_ok he.2)

end Go.Ev
end

