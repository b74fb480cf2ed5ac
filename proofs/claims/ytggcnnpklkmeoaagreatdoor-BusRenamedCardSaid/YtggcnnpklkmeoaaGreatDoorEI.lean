/- A ground evaluator for closed calls, part Na: strings out of bytes without a copy; maps; iterators. -/
import Derived.Test.YtggcnnpklkmeoaaGreatDoorEH
section
namespace Go.Ev
open Go.RowKit

/-- A world in which one block has changed, in whatever way. -/
structure Dropped (w w' : World) (g : Nat) : Prop where
  os : w'.os = w.os
  tape : w'.tape = w.tape
  output : w'.output = w.output
  size : w'.heap.size = w.heap.size
  other : ∀ g', g' ≠ g → w'.heap[g']? = w.heap[g']?

/-- A named block has changed, and its name is given up. -/
theorem goes_drop {ρ : Ren} {h h' : Mem} {n i : Nat} {w w' : World} (hh : HRel ρ h w) {l : Loc} (hi : h i ≠ none) (hl : ρ i = some l)
    (hh' : ∀ j, h' j = if j = i then none else h j) (hw : Dropped w w' l.g) : Goes ρ h n w ρ h' n w' where
  le := Nat.le_refl n
  ext _ _ := rfl
  os := hw.os
  tape := hw.tape
  output := hw.output
  size := by rw [hw.size]; exact Nat.le_refl _
  block g hg hn := hw.other g (fun e => hn ⟨i, l, hi, hl, e.symm⟩)
  own g hg := by
    obtain ⟨j, k, h1, h2, rfl⟩ := hg
    rw [hh'] at h1
    by_cases e : j = i
    · rw [if_pos e] at h1; exact absurd rfl h1
    · rw [if_neg e] at h1; exact .inr ⟨j, k, h1, h2, rfl⟩
  rel := by
    have q : ∀ x o, h' x = some o → h x = some o ∧ x ≠ i := by
      intro x o hx
      rw [hh'] at hx
      by_cases e : x = i
      · rw [if_pos e] at hx; cases hx
      · rw [if_neg e] at hx; exact ⟨hx, e⟩
    have q' : ∀ x, h' x ≠ none → h x ≠ none := by
      intro x hx
      cases hy : h' x with
      | none => exact absurd hy hx
      | some o => rw [(q x o hy).1]; simp
    refine ⟨fun j o ho => ?_, fun j j' lj lj' h1 h2 => hh.inj j j' lj lj' (q' j h1) (q' j' h2)⟩
    obtain ⟨a, b⟩ := q j o ho
    obtain ⟨k, u, c, d, f⟩ := hh.at_ j o a
    have hne : k.g ≠ l.g := fun eg => b (hh.inj j i k l (by rw [a]; simp) hi c hl eg)
    exact ⟨k, u, c, by rw [hw.other _ hne]; exact d, f⟩

theorem changed_obj {w : World} {g : Nat} (o : Obj) (h : g < w.heap.size) : Changed w { w with heap := w.heap.setIfInBounds g o } g o where
  os := rfl
  tape := rfl
  output := rfl
  size := by simp
  at_ := by simp [h]
  other g' hne := by
    show (w.heap.setIfInBounds g o)[g']? = w.heap[g']?
    rw [Array.getElem?_setIfInBounds]
    rw [if_neg (fun e => hne e.symm)]

theorem run_getObj {P : Program} {w : World} {g : Nat} {o : Obj} (h : w.heap[g]? = some o) (hc : ∀ c T fr, o ≠ .cells c T fr) : (getObj g).run P w = .ok o w := by
  unfold getObj
  unfold Sem.run
  rw [h]
  cases o <;> first | done | rfl | exact absurd rfl (hc _ _ _)

theorem run_setObj {P : Program} {w : World} {g : Nat} {o o' : Obj} (h : w.heap[g]? = some o) (hc : ∀ c T fr, o ≠ .cells c T fr) : (setObj g o').run P w = .ok () { w with heap := w.heap.setIfInBounds g o' } := by
  unfold setObj
  unfold Sem.run
  rw [h]
  cases o <;> first | done | rfl | exact absurd rfl (hc _ _ _)

theorem lt_of_heap {w : World} {g : Nat} {o : Obj} (h : w.heap[g]? = some o) : g < w.heap.size := (Array.getElem?_eq_some_iff.1 h).1

section
variable {E : Env} {ρ : Ren} {st : St} {tm : Array Value} {w : World} {v : Value} {h' : Tr RO} {n' : Nat}

theorem sliceData_does (hh : HRel ρ (getR st.h) w) {argTypes : Array TypeId} {type : TypeId} {args args' : List Value} (ha : VRels ρ args args') (he : opSliceData st args = some (.val v h' n')) :
    Does E.P ρ st.h st.n w (do pure (.value (← Builtin.unsafeSliceData_ argTypes type ⟨args'⟩))) v h' n' := by
  unfold opSliceData at he
  split at he
  · injection he with he; injection he with e1 e2 e3
    subst e1; subst e2; subst e3
    cases ha with
    | cons h1 h2 =>
    cases h2
    cases h1
    exact does_pure hh (v' := .pointer none) rfl .nilPtr
  · rename_i i o n c
    rw [cond_eq_ite, beq_iff] at he
    split at he
    · cases he
    · rename_i hn
      rw [decide_eq_true_eq] at hn
      injection he with he; injection he with e1 e2 e3
      subst e1; subst e2; subst e3
      cases ha with
      | cons h1 h2 =>
      cases h2
      cases h1 with
      | slice hi k1 k2 k3 k4 =>
      rename_i o' cap l
      have ho : o' = l.sh + o := by rcases k3 with k3 | k3; · exact absurd k3 hn
                                    · exact k3
      subst ho
      refine does_pure hh (v' := .pointer (some ⟨l.g, l.sh + o, none⟩)) ?_ (.ptr hi)
      have hc : cap ≠ 0 := by omega
      have e : Builtin.unsafeSliceData_ argTypes type ⟨[.slice (some ⟨l.g, l.sh + o, none⟩) n cap]⟩ = (if cap ≠ 0 then pure (.pointer (some ⟨l.g, l.sh + o, none⟩)) else _ : Sem Value) := rfl
      rw [e, if_pos hc]
      rfl
  · cases he

theorem run_loadBytes {P : Program} {g : Nat} {c' : List Value} {T : TypeId} {fr : Nat × Nat} (hg : w.heap[g]? = some (.cells ⟨c'⟩ T fr)) : ∀ (ns : List Int) (o : Nat) (acc : ByteArray), (c'.drop o).take ns.length = ns.map (Value.int .u8) →
    (loadBytes ⟨g, o, none⟩ acc ns.length).run P w = .ok ⟨⟨acc.data.toList ++ ns.map (fun n => UInt8.ofNat n.toNat)⟩⟩ w
  | [], o, acc, _ => by
    simp only [List.length_nil, loadBytes, Sem.run_pure, List.map_nil, List.append_nil]
  | b :: ns, o, acc, h => by
    have hb : c'[o]? = some (.int .u8 b) := by
      have := congrArg (fun l => l[0]?) h
      simpa using this
    have hr : (c'.drop (o + 1)).take ns.length = ns.map (Value.int .u8) := by
      have := congrArg List.tail h
      simp only [List.map_cons, List.tail_cons] at this
      rw [← this, List.length_cons, ← List.drop_one, List.drop_take, List.drop_drop]
      congr 1
    have hl : (load ⟨g, o, none⟩).run P w = .ok (.int .u8 b) w := by
      simp [load, Sem.run, cell_at hg, hb]
    rw [List.length_cons, loadBytes, Sem.run_bind, hl, Result.andThen_ok]
    dsimp only
    rw [add_lit, run_loadBytes hg ns (o + 1) _ hr]
    congr 3
    simp [ByteArray.push]

theorem freeze_dropped {g o n : Nat} : Dropped w (w.freeze ⟨g, o, none⟩ n) g := by
  unfold World.freeze
  split
  · exact ⟨rfl, rfl, rfl, rfl, fun _ _ => rfl⟩
  · refine ⟨rfl, rfl, rfl, by simp, fun g' hne => ?_⟩
    show (w.heap.modify g _)[g']? = _
    rw [Array.getElem?_modify, if_neg (fun e => hne e.symm)]

/-- Cells of which some may be shared by a string. -/
theorem row_froz (hh : HRel ρ (getR st.h) w) {i fz : Nat} {es : ES} {c : List Value} (he : frozOf st.h i = some (fz, es, c)) :
    getR st.h i ≠ none ∧ ∃ l c' T fr, ρ i = some l ∧ l.es = es ∧ w.heap[l.g]? = some (.cells ⟨c'⟩ T fr) ∧ c'.length = l.sz ∧ l.sh + c.length ≤ l.sz ∧ ones c = true ∧
      (∀ k, k < l.sz → fr.1 ≤ k → k < fr.2 → k < l.sh + fz) ∧ VRels ρ c ((c'.drop l.sh).take c.length) ∧ (∀ t, l.es.t = some t → T = t ∧ (fr.1 = fr.2 ∨ fr.2 ≤ l.sh + fz)) := by
  unfold frozOf at he
  split at he
  · rename_i a b hab
    injection he with he; injection he with e1 e2; injection e2 with e2 e3
    subst e1; subst e2; subst e3
    obtain ⟨l, o', h1, h2, h3⟩ := hh.at_ i _ hab
    cases h3 with
    | cells a b c1 d e hT _ => exact ⟨by rw [hab]; simp, l, _, _, _, h1, rfl, h2, a, b, c1, fun k k1 k2 k3 => absurd ⟨k2, k3⟩ (d k k1), e, fun t ht => ⟨(hT t ht).1, .inl (hT t ht).2⟩⟩
  · rename_i fz0 a b hab
    injection he with he; injection he with e1 e2; injection e2 with e2 e3
    subst e1; subst e2; subst e3
    obtain ⟨l, o', h1, h2, h3⟩ := hh.at_ i _ hab
    cases h3 with
    | froz a b c1 d e hT => exact ⟨by rw [hab]; simp, l, _, _, _, h1, rfl, h2, a, b, c1, d, e, hT⟩
  · cases he

theorem freeze_changed {g o n : Nat} {c' : List Value} {T : TypeId} {fr : Nat × Nat} (h : w.heap[g]? = some (.cells ⟨c'⟩ T fr)) (hn : n ≠ 0) :
    ∃ fr2 : Nat × Nat, Changed w (w.freeze ⟨g, o, none⟩ n) g (.cells ⟨c'⟩ T fr2) ∧ ((fr.1 = fr.2 ∧ fr2.2 = o + n) ∨ (fr.1 ≠ fr.2 ∧ fr2.2 = max fr.2 (o + n))) := by
  obtain ⟨lo, hi⟩ := fr
  refine ⟨if lo == hi then (o, o + n) else (min lo o, max hi (o + n)), ⟨?_, ?_, ?_, ?_, ?_, ?_⟩, ?_⟩
  · unfold World.freeze; rw [if_neg hn]
  · unfold World.freeze; rw [if_neg hn]
  · unfold World.freeze; rw [if_neg hn]
  · unfold World.freeze; rw [if_neg hn]; simp
  · unfold World.freeze
    rw [if_neg hn]
    show (w.heap.modify g _)[g]? = _
    rw [Array.getElem?_modify, if_pos rfl, h]
    rfl
  · intro g' hne
    unfold World.freeze
    rw [if_neg hn]
    show (w.heap.modify g _)[g']? = _
    rw [Array.getElem?_modify, if_neg (fun e => hne e.symm)]
  · by_cases hlh : lo = hi
    · left
      subst hlh
      simp
    · right
      refine ⟨hlh, ?_⟩
      have : (lo == hi) = false := by simpa using hlh
      rw [this]
      rfl

theorem unsafeString_does (ok : EnvOK E) (hh : HRel ρ (getR st.h) w) {argTypes : Array TypeId} {type : TypeId} {args args' : List Value} (ha : VRels ρ args args') (he : opUnsafeString E st argTypes.toList args = some (.val v h' n')) :
    Does E.P ρ st.h st.n w (do pure (.value (← Builtin.unsafeString_ argTypes type ⟨args'⟩))) v h' n' := by
  unfold opUnsafeString at he
  split at he
  · rename_i t ts p n ht
    have hat : argTypes[0]? = some t := by rw [← Array.getElem?_toList, ht]; rfl
    cases ha with
    | cons hp hr =>
    cases hr with
    | cons hn hr2 =>
    cases hr2
    cases hn
    have zero : n = 0 → v = .string ⟨⟨[]⟩⟩ → h' = st.h → n' = st.n → ∀ p', Does E.P ρ st.h st.n w (do pure (.value (← Builtin.unsafeString_ argTypes type ⟨[.pointer p', .int .i64 (.ofNat n)]⟩))) v h' n' := by
      rintro rfl rfl rfl rfl p'
      refine does_pure hh (v' := .string ⟨⟨[]⟩⟩) ?_ (.string _)
      have eb : Builtin.unsafeString_ argTypes type ⟨[.pointer p', .int .i64 (.ofNat 0)]⟩ = (asInt (.int .i64 (.ofNat 0)) >>= _) := rfl
      rw [eb]
      have e : (ByteArray.empty) = ⟨⟨[]⟩⟩ := rfl
      cases p' <;> simp [asInt, asIntOf, hat, IntKind.bits, IntKind.signed, IntKind.max, e]
    split at he
    · rw [cond_eq_ite, beq_iff] at he
      split at he
      · rename_i h0
        rw [decide_eq_true_eq] at h0
        injection he with he; injection he with e1 e2 e3
        cases hp
        exact zero h0 e1.symm e2.symm e3.symm none
      · cases he
    · rename_i i o
      cases hp with
      | ptr hi =>
      rename_i l
      rw [cond_eq_ite, beq_iff] at he
      split at he
      · rename_i h0
        rw [decide_eq_true_eq] at h0
        injection he with he; injection he with e1 e2 e3
        exact zero h0 e1.symm e2.symm e3.symm _
      · rename_i h0
        rw [decide_eq_true_eq] at h0
        split at he
        · rename_i d fz es c hd hc
          split at he
          · rename_i u T hdu hT
            rw [cond_eq_ite] at he
            split at he
            · rename_i hcond
              simp only [Bool.and_eq_true, beq_iff, ble_iff, blt_iff, decide_eq_true_eq] at hcond
              obtain ⟨⟨⟨⟨rfl, hz1⟩, hdep⟩, hbig⟩, hmax⟩ := hcond
              split at he
              · rename_i vs hvs
                split at he
                · rename_i s hs
                  injection he with he; injection he with e1 e2 e3
                  subst e1; subst e2; subst e3
                  obtain ⟨hne, l2, c', T', fr, h1, hes, h3, h4, h5, h6, h7, h8, h9⟩ := row_froz hh hc
                  rw [h1] at hi; injection hi with hi; subst hi
                  have hTT : T' = T := (h9 T (by rw [hes]; exact hT)).1
                  subst hTT
                  obtain ⟨q1, q2⟩ := cut_rel h8 (by omega) hvs
                  obtain ⟨ns, m1, m2⟩ := bytesStr_rel hs q1
                  have hnl : ns.length = n := by
                    have := congrArg List.length m1
                    simp at this
                    omega
                  have hu := (ok.ti hd).underlying (w := w)
                  rw [hdu] at hu
                  have hel : (elemOf t).run E.P w = .ok T' w := by
                    unfold elemOf
                    simp only [Sem.run_bind, hu, Result.andThen_ok, Sem.run_pure]
                  have hva : (variablesAt ⟨l2.g, l2.sh + o, none⟩ T' n).run E.P w = .ok true w := by
                    unfold variablesAt
                    have hp : (program : Sem Program).run E.P w = .ok E.P w := rfl
                    simp only [Sem.run_bind, hp, shape_cells h3, Result.andThen_ok, Sem.run_pure]
                    congr 1
                    obtain ⟨d', hd'⟩ : ∃ d', E.P.depth = d' + 1 := ⟨E.P.depth - 1, by omega⟩
                    rw [hd']
                    have hle : l2.sh + o + n ≤ c'.length := q2
                    have hrow : rowAt E.P (sameLayout E.P (d' + 1) · T') (d' + 1) T' (c'.length / 1) (l2.sh + o) n = true := by
                      unfold rowAt
                      have hsl : sameLayout E.P (d' + 1) T' T' = true := by unfold sameLayout; simp
                      simp only [hz1, Nat.one_ne_zero, if_false, Nat.div_one, Nat.mod_one, hsl]
                      simp [hle]
                    unfold liesAt
                    rw [hd', hz1]
                    have e : (⟨c'⟩ : Array Value).size = c'.length := rfl
                    rw [e, hrow]
                    rfl
                  have hld := run_loadBytes (P := E.P) h3 ns (l2.sh + o) .empty (by rw [hnl]; exact m1)
                  rw [hnl, m2] at hld
                  obtain ⟨fr2, hch, hfr2⟩ := freeze_changed (o := l2.sh + o) (n := n) h3 h0
                  refine ⟨.string ⟨⟨s⟩⟩, w.freeze ⟨l2.g, l2.sh + o, none⟩ n, ρ, .inl ?_, .string _, goes_update hh hne h1 _ _ (fun j => getR_putR st.h i _ hbig j) hch (by
                    rw [← hes]
                    have hmx : l2.sh + fz ≤ l2.sh + Nat.max fz (o + n) ∧ l2.sh + (o + n) ≤ l2.sh + Nat.max fz (o + n) := ⟨Nat.add_le_add_left (Nat.le_max_left _ _) _, Nat.add_le_add_left (Nat.le_max_right _ _) _⟩
                    have hfr : fr.1 = fr.2 ∨ fr.2 ≤ l2.sh + fz := (h9 T' (by rw [hes]; exact hT)).2
                    have hub : fr2.2 ≤ l2.sh + Nat.max fz (o + n) := by
                      rcases hfr2 with ⟨_, e2⟩ | ⟨hne2, e2⟩
                      · rw [e2]; omega
                      · rcases hfr with hq | hq
                        · exact absurd hq hne2
                        · rw [e2]
                          exact Nat.max_le.2 ⟨by omega, by omega⟩
                    refine ORel.froz h4 h5 h6 (fun k _ _ a3 => ?_) h8 (fun t ht => ⟨(h9 t ht).1, .inr hub⟩)
                    show k < l2.sh + Nat.max fz (o + n)
                    omega)⟩
                  have hint : (asInt (.int .i64 (.ofNat n))).run E.P w = .ok (n : Int) w := by
                    simp [asInt, asIntOf]
                  have e1 : ¬ ((n : Int) < 0) := by omega
                  have e2 : ¬ ((n : Int) > IntKind.i64.max) := by
                    have : IntKind.i64.max = 9223372036854775807 := by decide
                    rw [this]; omega
                  have hfz : (freeze ⟨l2.g, l2.sh + o, none⟩ n).run E.P w = .ok () (w.freeze ⟨l2.g, l2.sh + o, none⟩ n) := by simp [freeze, Sem.run]
                  have hld' : (loadBytes ⟨l2.g, l2.sh + o, none⟩ .empty n).run E.P w = .ok ⟨⟨s⟩⟩ w := by
                    rw [hld]; rfl
                  have eb : Builtin.unsafeString_ argTypes type ⟨[.pointer (some ⟨l2.g, l2.sh + o, none⟩), .int .i64 (.ofNat n)]⟩ = (asInt (.int .i64 (.ofNat n)) >>= _) := rfl
                  rw [eb]
                  simp only [Sem.run_bind, hint, Result.andThen_ok, hat, e1, e2, if_false, Int.natCast_eq_zero, h0, hel, Int.toNat_natCast, hva, if_true, hld', hfz, Sem.run_pure]
                · cases he
              · cases he
            · cases he
          · cases he
        · cases he
    · cases he
  · cases he

end
end Go.Ev
end

section
/- A ground evaluator for closed calls, part Nb: maps and iterators. -/
namespace Go.Ev
open Go.RowKit

section
variable {E : Env} {ρ : Ren} {st : St} {tm : Array Value} {w : World} {v : Value} {h' : Tr RO} {n' : Nat}

theorem leafKey_run {P : Program} {t : TypeId} {d : TypeDesc} {x : Value} (b : Bool) (n : Nat) (hu : ∀ w, (underlying t).run P w = .ok d w) (h : leafOK d = true) (w : World) : (Instr.checkKey b (n + 1) t x).run P w = .ok () w := by
  unfold Instr.checkKey
  rw [Sem.run_bind, hu, Result.andThen_ok]
  unfold leafOK at h
  split at h <;> first | rfl | cases h

/-- A loop that does nothing. -/
inductive Idle {α : Type} (P : Program) (w : World) (body : α → PUnit → Sem (ForInStep PUnit)) : List α → Prop
  | nil : Idle P w body []
  | cons {x : α} {l : List α} (h : ∀ s, (body x s).run P w = .ok (.yield ⟨⟩) w) (k : Idle P w body l) : Idle P w body (x :: l)

theorem Idle.run {α : Type} {P : Program} {w : World} {body : α → PUnit → Sem (ForInStep PUnit)} : ∀ {l : List α}, Idle P w body l → (forIn l PUnit.unit body).run P w = .ok ⟨⟩ w
  | _, .nil => by simp
  | _, .cons h k => by
    rw [List.forIn_cons, Sem.run_bind, h, Result.andThen_ok]
    exact k.run

theorem keyArr_idle (ok : EnvOK E) {e : TypeId} {j : TI} (hj : ti E e = some j) (ha : j.agg = false) (hl : leafOK j.under = true) (hs : j.size = 1) {xs : List Value} (b : Bool) (k : Nat) (w : World) : ∀ (n o : Nat), o + n ≤ xs.length →
    Idle E.P w (fun i (_ : PUnit) => do
      let d ← sizeOf e
      let p ← part e ⟨xs⟩ (i * d)
      Instr.checkKey b (k + 1) e p
      pure (ForInStep.yield PUnit.unit)) (List.range' o n)
  | 0, o, _ => .nil
  | n + 1, o, hle => by
    rw [List.range'_succ]
    have hx : nth xs o = some xs[o] := by rw [nth_eq]; simp
    refine .cons (fun s => ?_) (keyArr_idle ok hj ha hl hs b k w n (o + 1) (by omega))
    have hp := part_leaf ok hj ha hx w
    simp only [Sem.run_bind, (ok.ti hj).sizeOf, Result.andThen_ok, hs, Nat.mul_one, hp, leafKey_run b k (fun w => (ok.ti hj).underlying (w := w)) hl, Sem.run_pure]

theorem keyFld_cons (E : Env) (n : Nat) (f : Field) (fs : List Field) : keyFld E n (f :: fs) = (match ti E f.type with
    | some j => not j.agg && leafOK j.under && Nat.blt f.offset n && keyFld E n fs
    | none => false) := rfl

theorem keyFld_idle (ok : EnvOK E) {xs : List Value} (b : Bool) (k : Nat) (w : World) : ∀ (fs : List Field), keyFld E xs.length fs = true →
    Idle E.P w (fun (f : Field) (_ : PUnit) => if f.name ≠ "_" then do
        let p ← part f.type ⟨xs⟩ f.offset
        Instr.checkKey b (k + 1) f.type p
        pure (ForInStep.yield PUnit.unit)
      else pure (ForInStep.yield PUnit.unit)) fs
  | [], _ => .nil
  | f :: fs, h => by
    rw [keyFld_cons] at h
    split at h
    · rename_i j hj
      simp only [Bool.and_eq_true, Bool.not_eq_true', blt_iff, decide_eq_true_eq] at h
      obtain ⟨⟨⟨ha, hl⟩, ho⟩, hr⟩ := h
      refine .cons (fun s => ?_) (keyFld_idle ok b k w fs hr)
      have hx : nth xs f.offset = some xs[f.offset] := by rw [nth_eq]; simp
      have hp := part_leaf ok hj ha hx w
      by_cases hn : f.name ≠ "_"
      · rw [if_pos hn]
        simp only [Sem.run_bind, hp, Result.andThen_ok, leafKey_run b k (fun w => (ok.ti hj).underlying (w := w)) hl, Sem.run_pure]
      · rw [if_neg hn, Sem.run_pure]
    · cases h

theorem keyIn_run (ok : EnvOK E) {t : TypeId} {x : Value} (b : Bool) (k : Nat) (h : keyIn E t x = true) (w : World) : (Instr.checkKey b (k + 2) t x).run E.P w = .ok () w := by
  unfold keyIn at h
  split at h
  · rename_i d hd
    have hu := fun w => (ok.ti hd).underlying (w := w)
    split at h
    · rename_i n e xs hde
      rw [hde] at hu
      split at h
      · rename_i j hj
        simp only [Bool.and_eq_true, Bool.not_eq_true', beq_iff, ble_iff, decide_eq_true_eq, lenR_eq] at h
        obtain ⟨⟨⟨ha, hl⟩, hs⟩, hle⟩ := h
        have q := (keyArr_idle (xs := xs) ok hj ha hl hs b k w n 0 (by omega)).run
        unfold Instr.checkKey
        rw [Sem.run_bind, hu, Result.andThen_ok]
        dsimp only
        rw [Std.Legacy.Range.forIn_eq_forIn_range', Sem.run_bind]
        simp only [Std.Legacy.Range.size, Nat.sub_zero, Nat.add_sub_cancel, Nat.div_one]
        rw [q, Result.andThen_ok]
        rfl
      · cases h
    · rename_i fs xs hde
      rw [hde] at hu
      rw [lenR_eq] at h
      have q := (keyFld_idle ok b k w fs.toList h).run
      unfold Instr.checkKey
      rw [Sem.run_bind, hu, Result.andThen_ok]
      dsimp only
      rw [← Array.forIn_toList, Sem.run_bind, q, Result.andThen_ok]
      rfl
    · exact leafKey_run b (k + 1) hu h w
  · cases h

theorem ERels.get {ρ : Ren} : ∀ {es es' : List MapEntry}, ERels ρ es es' → ∀ {i : Nat} {e : MapEntry}, es[i]? = some e → ∃ e', es'[i]? = some e' ∧ ERel ρ e e'
  | _, _, .nil, i, e, h => by simp at h
  | _, _, .cons h hs, 0, e, hi => by simp at hi; subst hi; exact ⟨_, rfl, h⟩
  | _, _, .cons h hs, i + 1, e, hi => by simp at hi; simpa using ERels.get hs hi

theorem ERels.length {ρ : Ren} : ∀ {es es' : List MapEntry}, ERels ρ es es' → es'.length = es.length
  | _, _, .nil => rfl
  | _, _, .cons _ hs => by simp [ERels.length hs]

theorem findR_cons (E : Env) (kt : TypeId) (k : Value) (e : MapEntry) (es : List MapEntry) (i : Nat) : findR E kt k (e :: es) i = (match eqIn E kt k e.key with
    | some true => some (some i)
    | some false => findR E kt k es (i + 1)
    | none => none) := rfl

/-- What a search in a map gives, of the reference and in truth. -/
def Found (es es' : List MapEntry) (i : Nat) (ρ : Ren) : Option Nat → Option (Nat × Value) → Prop
  | none, r => r = none
  | some j, r => ∃ e e', i ≤ j ∧ es[j - i]? = some e ∧ es'[j - i]? = some e' ∧ ERel ρ e e' ∧ r = some (j, e'.val)

theorem Found.next {es es' : List MapEntry} {i : Nat} {ρ : Ren} {a a' : MapEntry} {r : Option Nat} {r' : Option (Nat × Value)} (h : Found es es' (i + 1) ρ r r') : Found (a :: es) (a' :: es') i ρ r r' := by
  cases r with
  | none => exact h
  | some j =>
    obtain ⟨e, e', h1, h2, h3, h4, h5⟩ := h
    have e1 : j - i = (j - (i + 1)) + 1 := by omega
    exact ⟨e, e', by omega, by rw [e1]; simpa using h2, by rw [e1]; simpa using h3, h4, h5⟩

theorem findAsking_run (ok : EnvOK E) {kt : TypeId} {k : Value} : ∀ {es es' : List MapEntry} {i : Nat} {r : Option Nat}, ERels ρ es es' → findR E kt k es i = some r → ∀ w, ∃ r', (Instr.findAsking kt k es' i).run E.P w = .ok r' w ∧ Found es es' i ρ r r'
  | _, _, i, r, .nil, h, w => by injection h with h; subst h; exact ⟨none, by simp [Instr.findAsking], rfl⟩
  | _, _, i, r, .cons (e := e) (e' := e') he hs, h, w => by
    rw [findR_cons] at h
    have e2 : Op.maxDepth = 9998 + 2 := rfl
    split at h
    · rename_i hq
      injection h with h; subst h
      have := eqIn_run ok 9998 hq w
      refine ⟨some (i, e'.val), ?_, e, e', Nat.le_refl _, by simp, by simp, he, rfl⟩
      unfold Instr.findAsking
      rw [Sem.run_bind, Op.equal, e2, he.key, this, Result.andThen_ok]
      rfl
    · rename_i hq
      have := eqIn_run ok 9998 hq w
      obtain ⟨r', q1, q2⟩ := findAsking_run ok hs h w
      refine ⟨r', ?_, q2.next⟩
      unfold Instr.findAsking
      rw [Sem.run_bind, Op.equal, e2, he.key, this, Result.andThen_ok]
      exact q1
    · cases h

theorem sameNow_eq {kt : TypeId} {d : TI} {a b : Value} {r r' : Bool} (hd : ti E kt = some d) (h1 : Instr.sameNow d.under a b = some r') (h2 : eqIn E kt a b = some r) : r' = r := by
  unfold eqIn at h2
  rw [hd] at h2
  dsimp only at h2
  unfold Instr.sameNow at h1
  split at h1
  · rename_i k0 k x k' y hde
    split at h1
    · injection h1 with h1; subst h1
      rw [hde] at h2
      simp only [eqLeaf] at h2
      split at h2
      · injection h2 with h2; subst h2
        rw [ieq_dec, Bool.eq_iff_iff]; simp
      · cases h2
    · cases h1
  · rename_i x y hde
    injection h1 with h1; subst h1
    rw [hde] at h2
    simp only [eqLeaf] at h2
    injection h2 with h2; subst h2
    rw [eqS_dec, Bool.eq_iff_iff, decide_eq_true_eq]; exact bytes_beq _ _
  · rename_i x y hde
    injection h1 with h1; subst h1
    rw [hde] at h2
    simp only [eqLeaf] at h2
    injection h2 with h2; subst h2
    rw [eqB_dec, Bool.eq_iff_iff]; simp
  · cases h1

theorem findNow_eq {kt : TypeId} {d : TI} {k : Value} (hd : ti E kt = some d) : ∀ {es es' : List MapEntry} {i : Nat} {r : Option Nat} {r' : Option (Nat × Value)}, ERels ρ es es' → findR E kt k es i = some r → Instr.findNow d.under k es' i = some r' → Found es es' i ρ r r'
  | _, _, i, r, r', .nil, h, h2 => by injection h with h; subst h; injection h2 with h2; subst h2; rfl
  | _, _, i, r, r', .cons (e := e) (e' := e') he hs, h, h2 => by
    rw [findR_cons] at h
    unfold Instr.findNow at h2
    rw [he.key] at h2
    split at h
    · rename_i hq
      injection h with h; subst h
      split at h2
      · injection h2 with h2; subst h2
        exact ⟨e, e', Nat.le_refl _, by simp, by simp, he, rfl⟩
      · rename_i hs2; have := sameNow_eq hd hs2 hq; cases this
      · cases h2
    · rename_i hq
      split at h2
      · rename_i hs2; have := sameNow_eq hd hs2 hq; cases this
      · exact (findNow_eq hd hs h h2).next
      · cases h2
    · cases h

theorem findIn_run (ok : EnvOK E) {kt : TypeId} {k : Value} {es es' : List MapEntry} {r : Option Nat} (hes : ERels ρ es es') (h : findIn E kt k es = some r) (w : World) :
    (∀ b, (Instr.checkKey b 10000 kt k).run E.P w = .ok () w) ∧ ∃ r', (Instr.findKey kt k es').run E.P w = .ok r' w ∧ Found es es' 0 ρ r r' := by
  unfold findIn at h
  split at h
  · rename_i hk
    refine ⟨fun b => keyIn_run ok b 9998 hk w, ?_⟩
    have hd : ∃ d, ti E kt = some d := by
      unfold keyIn at hk
      cases hd : ti E kt with
      | none => rw [hd] at hk; cases hk
      | some d => exact ⟨d, rfl⟩
    obtain ⟨d, hd⟩ := hd
    have hu := (ok.ti hd).underlying (w := w)
    obtain ⟨r', q1, q2⟩ := findAsking_run ok hes h w
    unfold Instr.findKey
    rw [Sem.run_bind, hu, Result.andThen_ok]
    cases hn : Instr.findNow d.under k es' 0 with
    | none => exact ⟨r', q1, q2⟩
    | some r2 => exact ⟨r2, rfl, findNow_eq hd hes h hn⟩
  · cases h

theorem mapOf_some {h : Tr RO} {r c : Nat} {es : List MapEntry} (he : mapOf h r = some (es, c)) : getR h r = some (.map es c) := by
  unfold mapOf at he
  split at he
  · rename_i a b hab; injection he with he; injection he with e1 e2; subst e1; subst e2; exact hab
  · cases he

theorem map_at (hh : HRel ρ (getR st.h) w) {r c : Nat} {es : List MapEntry} (he : mapOf st.h r = some (es, c)) : ∃ l es', ρ r = some l ∧ w.heap[l.g]? = some (.map ⟨es'⟩ c) ∧ ERels ρ es es' := by
  obtain ⟨l, o', h1, h2, h3⟩ := hh.at_ r _ (mapOf_some he)
  cases h3 with
  | map h => exact ⟨l, _, h1, h2, h⟩

theorem zeroOf_eq {i : TI} {P : Program} {t : TypeId} (hT : TyOK P t i) {z : Value} (h : zeroOf i = some z) : (∀ w, (zeroValue t).run P w = .ok z w) ∧ flat2 z = true := by
  obtain ⟨u, h1, h2, h3, h4⟩ := hT.zeroShape
  have e : z = u := by
    unfold zeroOf at h
    unfold shapeZ at h4
    rw [← hT.agg] at h4
    split at h
    · rename_i ha
      rw [ha] at h4
      injection h with h
      cases u with
      | agg l => rw [← h, ← h2]; rfl
      | _ => cases h4
    · rename_i ha
      rw [ha] at h4
      split at h
      · rename_i y hy
        injection h with h; subst h
        rw [hy] at h2
        cases u <;> first | (cases h4; done) | (simp [Value.cells] at h2; exact h2.symm)
      · cases h
  subst e
  exact ⟨h1, h3⟩

theorem okd_run {P : Program} (b : Bool) (v : Value) (ok : Bool) (w : World) : (pure (if b = true then .tuple #[v, .bool ok] else v) : Sem Value).run P w = .ok (okd b v ok) w := by
  cases b <;> rfl

theorem okd_rel {ρ : Ren} {v v' : Value} (h : VRel ρ v v') (b o : Bool) : VRel ρ (okd b v o) (okd b v' o) := by
  cases b with
  | true => exact .tuple (.cons h (.cons (.bool _) .nil))
  | false => exact h

theorem lookupIn_does (ok : EnvOK E) (_hh : HRel ρ (getR st.h) w) {kt et : TypeId} {k k' : Value} {es es' : List MapEntry} {b : Bool} (hk : VRel ρ k k') (hes : ERels ρ es es') (he : lookupIn E st kt et k es b = some (.val v h' n')) :
    ∃ v', (do Instr.checkKey (⟨es'⟩ : Array MapEntry).isEmpty 10000 kt k'
              let (v, ok) ← match ← Instr.findKey kt k' es' with
                | some (_, v) => pure (v, true)
                | none => pure (← zeroValue et, false)
              pure (if b then .tuple #[v, .bool ok] else v) : Sem Value).run E.P w = .ok v' w ∧ VRel ρ v v' ∧ h' = st.h ∧ n' = st.n := by
  unfold lookupIn at he
  rw [cond_eq_ite, flat2R_eq] at he
  split at he
  · rename_i hf
    have e := VRel.eq_of_flat2 hf hk
    subst e
    split at he
    · rename_i i hi
      split at he
      · rename_i e hn
        injection he with he; injection he with e1 e2 e3
        subst e1; subst e2; subst e3
        obtain ⟨q1, r', q2, q3⟩ := findIn_run ok hes hi w
        obtain ⟨a, a', _, h2, h3, h4, h5⟩ := q3
        subst h5
        rw [Nat.sub_zero] at h2
        rw [nth_eq, h2] at hn
        injection hn with hn; subst hn
        refine ⟨okd b a'.val true, ?_, okd_rel h4.val b true, rfl, rfl⟩
        simp only [Sem.run_bind, q1, q2, Result.andThen_ok, Sem.run_pure]
        cases b <;> rfl
      · cases he
    · rename_i hi
      split at he
      · rename_i j hj
        split at he
        · rename_i z hz
          injection he with he; injection he with e1 e2 e3
          subst e1; subst e2; subst e3
          obtain ⟨q1, r', q2, q3⟩ := findIn_run ok hes hi w
          obtain ⟨z1, z2⟩ := zeroOf_eq (ok.ti hj) hz
          have q3' : r' = none := q3
          subst q3'
          refine ⟨okd b z false, ?_, okd_rel (VRel.of_flat2 z2) b false, rfl, rfl⟩
          simp only [Sem.run_bind, q1, q2, z1, Result.andThen_ok, Sem.run_pure]
          cases b <;> rfl
        · cases he
      · cases he
    · cases he
  · cases he

/-! A map whose entries stand in an unknown order. -/

theorem onlyR_cons (E : Env) (kt : TypeId) (k : Value) (e : MapEntry) (es : List MapEntry) : onlyR E kt k (e :: es) = (match eqIn E kt k e.key with
    | some true => match onlyR E kt k es with
      | some none => some (some e)
      | _ => none
    | some false => onlyR E kt k es
    | none => none) := rfl

/-- Every key can be asked. -/
def Asked (E : Env) (kt : TypeId) (k : Value) (es : List MapEntry) : Prop := ∀ e ∈ es, ∃ b, eqIn E kt k e.key = some b

noncomputable def hasKey (E : Env) (kt : TypeId) (k : Value) (e : MapEntry) : Bool := eqIn E kt k e.key == some true

theorem onlyR_spec {kt : TypeId} {k : Value} : ∀ {es es' : List MapEntry} {r : Option MapEntry}, NRels ρ es es' → onlyR E kt k es = some r →
    Asked E kt k es' ∧ (r = none → es'.filter (hasKey E kt k) = []) ∧ (∀ e, r = some e → ∃ e', es'.filter (hasKey E kt k) = [e'] ∧ NRel ρ e e')
  | _, _, r, .nil, h => by
    injection h with h; subst h
    exact ⟨fun e he => (by cases he), fun _ => rfl, fun e he => (by cases he)⟩
  | _, _, r, .cons (e := x) (e' := x') hx hs, h => by
    rw [onlyR_cons] at h
    split at h
    · rename_i hq
      split at h
      · rename_i hr
        injection h with h; subst h
        obtain ⟨a, b, c⟩ := onlyR_spec hs hr
        have hk : hasKey E kt k x' = true := by unfold hasKey; rw [hx.key, hq]; rfl
        refine ⟨fun e he => ?_, fun e => (by cases e), fun e he => ⟨x', ?_, ?_⟩⟩
        · rcases List.mem_cons.1 he with rfl | he
          · exact ⟨true, by rw [hx.key, hq]⟩
          · exact a e he
        · rw [List.filter_cons, if_pos hk, b rfl]
        · injection he with he; subst he; exact hx
      · cases h
    · rename_i hq
      obtain ⟨a, b, c⟩ := onlyR_spec hs h
      have hk : hasKey E kt k x' = false := by unfold hasKey; rw [hx.key, hq]; rfl
      refine ⟨fun e he => ?_, fun e => ?_, fun e he => ?_⟩
      · rcases List.mem_cons.1 he with rfl | he
        · exact ⟨false, by rw [hx.key, hq]⟩
        · exact a e he
      · rw [List.filter_cons, hk]; exact b e
      · rw [List.filter_cons, hk]; exact c e he
    · cases h

theorem askedAsking_run (ok : EnvOK E) {kt : TypeId} {k : Value} : ∀ {es : List MapEntry} (i : Nat), Asked E kt k es → ∀ w, ∃ r, (Instr.findAsking kt k es i).run E.P w = .ok r w ∧ (r.map (·.2)) = ((es.filter (hasKey E kt k)).head?).map (·.val)
  | [], i, _, w => ⟨none, by simp [Instr.findAsking], rfl⟩
  | e :: es, i, h, w => by
    have e2 : Op.maxDepth = 9998 + 2 := rfl
    obtain ⟨b, hq⟩ := h e (by simp)
    have hr := eqIn_run ok 9998 hq w
    cases b with
    | true =>
      refine ⟨some (i, e.val), ?_, ?_⟩
      · unfold Instr.findAsking
        rw [Sem.run_bind, Op.equal, e2, hr, Result.andThen_ok]
        rfl
      · have hk : hasKey E kt k e = true := by unfold hasKey; rw [hq]; rfl
        rw [List.filter_cons, if_pos hk]; rfl
    | false =>
      obtain ⟨r, q1, q2⟩ := askedAsking_run ok (i + 1) (fun x hx => h x (List.mem_cons_of_mem _ hx)) w
      refine ⟨r, ?_, ?_⟩
      · unfold Instr.findAsking
        rw [Sem.run_bind, Op.equal, e2, hr, Result.andThen_ok]
        exact q1
      · have hk : hasKey E kt k e = false := by unfold hasKey; rw [hq]; rfl
        rw [List.filter_cons, hk]; exact q2

theorem askedNow_eq {kt : TypeId} {d : TI} {k : Value} (hd : ti E kt = some d) : ∀ {es : List MapEntry} {i : Nat} {r : Option (Nat × Value)}, Asked E kt k es → Instr.findNow d.under k es i = some r → (r.map (·.2)) = ((es.filter (hasKey E kt k)).head?).map (·.val)
  | [], i, r, _, h => by injection h with h; subst h; rfl
  | e :: es, i, r, h, h2 => by
    obtain ⟨b, hq⟩ := h e (by simp)
    unfold Instr.findNow at h2
    split at h2
    · rename_i hs
      injection h2 with h2; subst h2
      have := sameNow_eq hd hs hq
      subst this
      have hk : hasKey E kt k e = true := by unfold hasKey; rw [hq]; rfl
      rw [List.filter_cons, if_pos hk]; rfl
    · rename_i hs
      have := sameNow_eq hd hs hq
      subst this
      have hk : hasKey E kt k e = false := by unfold hasKey; rw [hq]; rfl
      rw [List.filter_cons, hk]
      exact askedNow_eq hd (fun x hx => h x (List.mem_cons_of_mem _ hx)) h2
    · cases h2

/-- A search in a map of which every key can be asked. -/
theorem asked_run (ok : EnvOK E) {kt : TypeId} {k : Value} {es : List MapEntry} (hk : keyIn E kt k = true) (h : Asked E kt k es) (w : World) :
    (∀ b, (Instr.checkKey b 10000 kt k).run E.P w = .ok () w) ∧ ∃ r, (Instr.findKey kt k es).run E.P w = .ok r w ∧ (r.map (·.2)) = ((es.filter (hasKey E kt k)).head?).map (·.val) := by
  refine ⟨fun b => keyIn_run ok b 9998 hk w, ?_⟩
  have hd : ∃ d, ti E kt = some d := by
    unfold keyIn at hk
    cases hd : ti E kt with
    | none => rw [hd] at hk; cases hk
    | some d => exact ⟨d, rfl⟩
  obtain ⟨d, hd⟩ := hd
  have hu := (ok.ti hd).underlying (w := w)
  obtain ⟨r', q1, q2⟩ := askedAsking_run ok 0 h w
  unfold Instr.findKey
  rw [Sem.run_bind, hu, Result.andThen_ok]
  cases hn : Instr.findNow d.under k es 0 with
  | none => exact ⟨r', q1, q2⟩
  | some r2 => exact ⟨r2, rfl, askedNow_eq hd h hn⟩

theorem Asked.perm {kt : TypeId} {k : Value} {a b : List MapEntry} (p : a.Perm b) (h : Asked E kt k a) : Asked E kt k b := fun e he => h e (p.mem_iff.2 he)

theorem pmapOf_some {h : Tr RO} {r : Nat} {es : List MapEntry} (he : pmapOf h r = some es) : getR h r = some (.pmap es) := by
  unfold pmapOf at he
  split at he
  · rename_i a hab; injection he with he; subst he; exact hab
  · cases he

/-- What a map of the reference says of the true one. -/
theorem ent_rel {ρ : Ren} {l : Loc} {o : RO} {o' : Obj} {es : List MapEntry} (h : entOf o = some es) (r : ORel ρ l o o') : ∃ es2 es' c, o' = .map ⟨es'⟩ c ∧ NRels ρ es es2 ∧ es2.Perm es' := by
  cases o with
  | map a c =>
    have h' : some a = some es := h
    injection h' with h'; subst h'
    cases r with
    | map h => exact ⟨_, _, _, rfl, h.toN, .refl _⟩
  | pmap a =>
    have h' : some a = some es := h
    injection h' with h'; subst h'
    cases r with
    | pmap h p => exact ⟨_, _, _, rfl, h, p⟩
  | _ => cases h

theorem lookupP_does (ok : EnvOK E) {kt et : TypeId} {k k' : Value} {es es2 es' : List MapEntry} {b : Bool} (hk : VRel ρ k k') (hes : NRels ρ es es2) (hp : es2.Perm es') (he : lookupP E st kt et k es b = some (.val v h' n')) :
    ∃ v', (do Instr.checkKey (⟨es'⟩ : Array MapEntry).isEmpty 10000 kt k'
              let (v, ok) ← match ← Instr.findKey kt k' es' with
                | some (_, v) => pure (v, true)
                | none => pure (← zeroValue et, false)
              pure (if b then .tuple #[v, .bool ok] else v) : Sem Value).run E.P w = .ok v' w ∧ VRel ρ v v' ∧ h' = st.h ∧ n' = st.n := by
  unfold lookupP at he
  rw [cond_eq_ite] at he
  split at he
  · rename_i hf
    rw [Bool.and_eq_true, flat2R_eq] at hf
    have e := VRel.eq_of_flat2 hf.1 hk
    subst e
    split at he
    · rename_i e hi
      injection he with he; injection he with e1 e2 e3
      subst e1; subst e2; subst e3
      obtain ⟨a, _, c⟩ := onlyR_spec hes hi
      obtain ⟨e', c1, c2⟩ := c e rfl
      obtain ⟨q1, r', q2, q3⟩ := asked_run ok hf.2 (a.perm hp) w
      have hfil : es'.filter (hasKey E kt k') = [e'] := by
        have := hp.filter (hasKey E kt k')
        rw [c1] at this
        exact List.perm_singleton.1 this.symm
      rw [hfil] at q3
      cases r' with
      | none => cases q3
      | some p =>
        obtain ⟨i, u⟩ := p
        have hu : u = e'.val := by simpa using q3
        subst hu
        refine ⟨okd b e'.val true, ?_, okd_rel c2.val b true, rfl, rfl⟩
        simp only [Sem.run_bind, q1, q2, Result.andThen_ok, Sem.run_pure]
        cases b <;> rfl
    · rename_i hi
      split at he
      · rename_i j hj
        split at he
        · rename_i z hz
          injection he with he; injection he with e1 e2 e3
          subst e1; subst e2; subst e3
          obtain ⟨a, c, _⟩ := onlyR_spec hes hi
          obtain ⟨q1, r', q2, q3⟩ := asked_run ok hf.2 (a.perm hp) w
          obtain ⟨z1, z2⟩ := zeroOf_eq (ok.ti hj) hz
          have hfil : es'.filter (hasKey E kt k') = [] := by
            have := hp.filter (hasKey E kt k')
            rw [c rfl] at this
            exact this.symm.eq_nil
          rw [hfil] at q3
          have q3' : r' = none := by
            cases r' with
            | none => rfl
            | some p => cases q3
          subst q3'
          refine ⟨okd b z false, ?_, okd_rel (VRel.of_flat2 z2) b false, rfl, rfl⟩
          simp only [Sem.run_bind, q1, q2, z1, Result.andThen_ok, Sem.run_pure]
          cases b <;> rfl
        · cases he
      · cases he
    · cases he
  · cases he

theorem lookup_does (ok : EnvOK E) (hb : Base E ρ st.n) (hs : SRel ρ st.σ tm) (hh : HRel ρ (getR st.h) w) {t : TypeId} {x ix : Operand} {b : Bool} (he : opLookup E st t x ix b = some (.val v h' n')) :
    Does E.P ρ st.h st.n w (do pure (.value (← Instr.lookup t (evalT tm x) (evalT tm ix) b))) v h' n' := by
  unfold opLookup at he
  split at he
  · rename_i d m k hd hm hk
    have hu := (ok.ti hd).underlying (w := w)
    have rm := opnd_rel hb hs hm
    have rk := opnd_rel hb hs hk
    split at he
    · rename_i kt et hde
      rw [hde] at hu
      obtain ⟨v', q1, q2, rfl, rfl⟩ := lookupIn_does ok hh rk .nil he
      generalize hx : evalT tm x = x' at rm
      cases rm
      refine does_pure hh ?_ q2
      unfold Instr.lookup
      simp only [Sem.run_bind, hu, Result.andThen_ok, Sem.run_pure]
      simp only [Sem.run_bind] at q1
      erw [q1]
      rfl
    · rename_i kt et r hde
      rw [hde] at hu
      split at he
      · rename_i es c hmap
        obtain ⟨l, es', h1, h2, h3⟩ := map_at hh hmap
        obtain ⟨v', q1, q2, rfl, rfl⟩ := lookupIn_does ok hh rk h3 he
        generalize hx : evalT tm x = x' at rm
        cases rm with
        | map hi =>
        rw [h1] at hi; injection hi with hi; subst hi
        refine does_pure hh ?_ q2
        have hg := run_getObj (P := E.P) h2 (by intro c T fr e; cases e)
        unfold Instr.lookup
        simp only [Sem.run_bind, hu, hg, Result.andThen_ok, Sem.run_pure]
        simp only [Sem.run_bind] at q1
        erw [q1]
        rfl
      · split at he
        · rename_i es hmap
          obtain ⟨l, o', h1, h2, h3⟩ := hh.at_ r _ (pmapOf_some hmap)
          obtain ⟨es2, es', c, rfl, h4, h5⟩ := ent_rel (es := es) rfl h3
          obtain ⟨v', q1, q2, rfl, rfl⟩ := lookupP_does ok (w := w) rk h4 h5 he
          generalize hx : evalT tm x = x' at rm
          cases rm with
          | map hi =>
          rw [h1] at hi; injection hi with hi; subst hi
          refine does_pure hh ?_ q2
          have hg := run_getObj (P := E.P) h2 (by intro c T fr e; cases e)
          unfold Instr.lookup
          simp only [Sem.run_bind, hu, hg, Result.andThen_ok, Sem.run_pure]
          simp only [Sem.run_bind] at q1
          erw [q1]
          rfl
        · cases he
    · cases he
  · cases he

end
end Go.Ev
end

