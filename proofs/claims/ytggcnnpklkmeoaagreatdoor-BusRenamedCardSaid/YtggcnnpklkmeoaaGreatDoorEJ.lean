/- A ground evaluator for closed calls, part Nc: changes of maps, iterators. -/
import Derived.Test.YtggcnnpklkmeoaaGreatDoorEI
section
namespace Go.Ev
open Go.RowKit

section
variable {E : Env} {ρ : Ren} {st : St} {tm : Array Value} {w : World} {v : Value} {h' : Tr RO} {n' : Nat}

theorem eqV_succ_agg : True := trivial

theorem eqA_eq {a b : Addr} (h : eqA a b = true) : a = b := by
  unfold eqA at h
  split at h
  · simp only [Bool.and_eq_true, beq_iff, decide_eq_true_eq] at h
    obtain ⟨rfl, rfl⟩ := h; rfl
  · cases h

set_option maxHeartbeats 1000000 in
theorem eqV_eq : ∀ (f : Nat) {a b : Value}, eqV f a b = true → a = b
  | 0, a, b, h => by cases h
  | f + 1, a, b, h => by
    have ih : ∀ x y, eqV f x y = true → x = y := fun x y => eqV_eq f
    have hL : ∀ {l m : List Value}, eqL (eqV f) l m = true → l = m := fun h => eqL_eq ih h
    cases a with
    | bool x => cases b <;> first | (cases h; done) | (have h' : eqB x _ = true := h; rw [eqB_dec, decide_eq_true_eq] at h'; rw [h'])
    | int j x =>
      cases b <;> first | (cases h; done) | skip
      rename_i k y
      have h' : (sameK j k && ieq x y) = true := h
      rw [Bool.and_eq_true, ieq_dec, decide_eq_true_eq] at h'
      rw [sameK_same h'.1, h'.2]
    | string s => cases b <;> first | (cases h; done) | (have h' : eqS s _ = true := h; rw [eqS_dec, decide_eq_true_eq] at h'; rw [h'])
    | pointer p =>
      cases p with
      | none => cases b with
        | pointer q => cases q <;> first | rfl | cases h
        | _ => cases h
      | some p => cases b with
        | pointer q => cases q with
          | none => cases h
          | some q => rw [eqA_eq (show eqA p q = true from h)]
        | _ => cases h
    | slice p n c =>
      cases p with
      | none => cases b with
        | slice q m d => cases q with
          | none =>
            have h' : (Nat.beq n m && Nat.beq c d) = true := h
            simp only [Bool.and_eq_true, beq_iff, decide_eq_true_eq] at h'
            obtain ⟨rfl, rfl⟩ := h'; rfl
          | some q => cases h
        | _ => cases h
      | some p => cases b with
        | slice q m d => cases q with
          | none => cases h
          | some q =>
            have h' : (eqA p q && Nat.beq n m && Nat.beq c d) = true := h
            simp only [Bool.and_eq_true, beq_iff, decide_eq_true_eq] at h'
            obtain ⟨⟨h1, rfl⟩, rfl⟩ := h'
            rw [eqA_eq h1]
        | _ => cases h
    | map p =>
      cases p with
      | none => cases b with
        | map q => cases q <;> first | rfl | cases h
        | _ => cases h
      | some p => cases b with
        | map q => cases q with
          | none => cases h
          | some q => rw [Nat.eq_of_beq_eq_true (show Nat.beq p q = true from h)]
        | _ => cases h
    | func fn a1 a2 =>
      cases fn with
      | func g =>
        cases b with
        | func fn' b1 b2 =>
          cases fn' with
          | func g' =>
            have h' : (Nat.beq g g' && eqL (eqV f) a1.toList b1.toList && eqL (eqV f) a2.toList b2.toList) = true := h
            simp only [Bool.and_eq_true, beq_iff, decide_eq_true_eq] at h'
            obtain ⟨⟨rfl, h1⟩, h2⟩ := h'
            rw [Array.ext' (hL h1), Array.ext' (hL h2)]
          | _ => cases h
        | _ => cases h
      | _ => cases h
    | nilFunc => cases b <;> first | rfl | cases h
    | iface t x =>
      cases b with
      | iface u y =>
        have h' : (Nat.beq t u && eqV f x y) = true := h
        simp only [Bool.and_eq_true, beq_iff, decide_eq_true_eq] at h'
        obtain ⟨rfl, h1⟩ := h'
        rw [ih _ _ h1]
      | _ => cases h
    | nilIface => cases b <;> first | rfl | cases h
    | agg l =>
      cases b with
      | agg m => rw [Array.ext' (hL (show eqL (eqV f) l.toList m.toList = true from h))]
      | _ => cases h
    | tuple l =>
      cases b with
      | tuple m => rw [Array.ext' (hL (show eqL (eqV f) l.toList m.toList = true from h))]
      | _ => cases h
    | _ => cases h

theorem goes_drew {h : Mem} {n : Nat} (hh : HRel ρ h w) : Goes ρ h n w ρ h n w.drew where
  le := Nat.le_refl n
  ext _ _ := rfl
  os := rfl
  tape := rfl
  output := rfl
  size := Nat.le_refl _
  block _ _ _ := rfl
  own _ h := .inr h
  rel := hh.drew

theorem keyStays {P : Program} (k : Value) : ∃ w1, (Instr.keyThatStays k k).run P w = .ok k w1 ∧ (w1 = w ∨ w1 = w.drew) := by
  unfold Instr.keyThatStays
  by_cases h : Instr.sameBits 10000 k k = true
  · exact ⟨w, by rw [if_pos h]; rfl, .inl rfl⟩
  · refine ⟨w.drew, ?_, .inr rfl⟩
    rw [if_neg h]
    have hc : ∃ q, (choose (.extern "map.whichKeyStays" 2)).run P w = .ok q w.drew := ⟨_, by simp [choose, Sem.run, Question.forced]; rfl⟩
    obtain ⟨q, hc⟩ := hc
    rw [Sem.run_bind, hc, Result.andThen_ok]
    by_cases hq : q = 0 <;> simp [hq]

theorem ERels.append {ρ : Ren} : ∀ {a a' b b' : List MapEntry}, ERels ρ a a' → ERels ρ b b' → ERels ρ (a ++ b) (a' ++ b')
  | _, _, _, _, .nil, h => h
  | _, _, _, _, .cons h hs, k => .cons h (ERels.append hs k)

theorem ERels.set {ρ : Ren} : ∀ {a a' : List MapEntry} (n : Nat) {x x' : MapEntry}, ERels ρ a a' → ERel ρ x x' → ERels ρ (a.set n x) (a'.set n x')
  | _, _, _, _, _, .nil, _ => by simp; exact .nil
  | _, _, 0, _, _, .cons h hs, k => .cons k hs
  | _, _, n + 1, _, _, .cons h hs, k => .cons h (ERels.set n hs k)

theorem ERels.erase {ρ : Ren} : ∀ {a a' : List MapEntry} (n : Nat), ERels ρ a a' → ERels ρ (a.eraseIdx n) (a'.eraseIdx n)
  | _, _, _, .nil => by simp; exact .nil
  | _, _, 0, .cons h hs => by simpa using hs
  | _, _, n + 1, .cons h hs => by simp; exact .cons h (ERels.erase n hs)

theorem rid_eq : ∀ (l : List MapEntry) (n : Nat), rid l n = l.eraseIdx n
  | [], n => by simp [rid]
  | x :: l, 0 => rfl
  | x :: l, n + 1 => by
    have e : rid (x :: l) (n + 1) = x :: rid l n := rfl
    rw [e, rid_eq l n]; simp

theorem lay_one : ∀ {l : List MapEntry} {i : Nat} {x : MapEntry} {r : List MapEntry}, lay l i [x] = some r → r = l.set i x
  | [], 0, x, r, h => by cases h
  | [], i + 1, x, r, h => by cases h
  | y :: l, 0, x, r, h => by
    have h' : consO x (lay l 0 []) = some r := h
    obtain ⟨q, h1, rfl⟩ := consO_some h'
    have : lay l 0 [] = some l := by cases l <;> rfl
    rw [this] at h1; injection h1 with h1; subst h1; rfl
  | y :: l, i + 1, x, r, h => by
    have h' : consO y (lay l i [x]) = some r := h
    obtain ⟨q, h1, rfl⟩ := consO_some h'
    rw [lay_one h1]; rfl

theorem modify_set (l : List MapEntry) (i : Nat) (f : MapEntry → MapEntry) (e : MapEntry) (h : l[i]? = some e) : (⟨l⟩ : Array MapEntry).modify i f = ⟨l.set i (f e)⟩ := by
  apply Array.ext_getElem?
  intro j
  rw [Array.getElem?_modify]
  simp only [List.getElem?_toArray]
  rw [List.getElem?_set]
  by_cases hj : i = j
  · subst hj
    rw [if_pos rfl, if_pos rfl, h]
    have : i < l.length := (List.getElem?_eq_some_iff.1 h).1
    rw [if_pos this]
    simp
  · rw [if_neg hj, if_neg hj]

theorem mapUpdate_does (ok : EnvOK E) (hb : Base E ρ st.n) (hs : SRel ρ st.σ tm) (hh : HRel ρ (getR st.h) w) {t : TypeId} {x ix y : Operand} (he : opMapUpdate E st t x ix y = some (.val v h' n')) :
    Does E.P ρ st.h st.n w (do Instr.mapUpdate t (evalT tm x) (evalT tm ix) (evalT tm y); pure .skip) v h' n' := by
  unfold opMapUpdate at he
  split at he
  · rename_i d r k u hd hm hk hu
    have hty := (ok.ti hd).underlying (w := w)
    have rm := opnd_rel hb hs hm
    have rk := opnd_rel hb hs hk
    have ru := opnd_rel hb hs hu
    split at he
    · rename_i kt et es c hde hmap
      rw [hde] at hty
      rw [cond_eq_ite] at he
      split at he
      · rename_i hcond
        rw [Bool.and_eq_true, flat2R_eq, blt_iff, decide_eq_true_eq] at hcond
        obtain ⟨hf, hbig⟩ := hcond
        have e := VRel.eq_of_flat2 hf rk
        obtain ⟨l, es', h1, h2, h3⟩ := map_at hh hmap
        generalize hx : evalT tm x = x' at rm
        cases rm with
        | map hi =>
        rw [h1] at hi; injection hi with hi; subst hi
        have hgo := run_getObj (P := E.P) h2 (by intro c T fr e; cases e)
        have hne : getR st.h r ≠ none := by rw [mapOf_some hmap]; simp
        split at he
        · rename_i i hi
          split at he
          · rename_i es2 hset
            injection he with he; injection he with e1 e2 e3
            subst e1; subst e2; subst e3
            obtain ⟨q1, r', q2, q3⟩ := findIn_run ok h3 hi w
            obtain ⟨a, a', _, g2, g3, g4, g5⟩ := q3
            subst g5
            rw [Nat.sub_zero] at g2 g3
            unfold setVal at hset
            rw [nth_eq, g2] at hset
            dsimp only at hset
            rw [cond_eq_ite] at hset
            split at hset
            · rename_i hkey
              have hkk := eqV_eq 8 hkey
              have hes2 := lay_one hset
              obtain ⟨w1, p1, p2⟩ := keyStays (P := E.P) (w := w) k
              have hw1 : w1.heap = w.heap := by rcases p2 with rfl | rfl <;> rfl
              have hh1 : HRel ρ (getR st.h) w1 := ⟨fun i o ho => by obtain ⟨a, b, c, d, e⟩ := hh.at_ i o ho; exact ⟨a, b, c, by rw [hw1]; exact d, e⟩, hh.inj⟩
              have hg0 : Goes ρ (getR st.h) st.n w ρ (getR st.h) st.n w1 := by
                rcases p2 with rfl | rfl
                · exact Goes.refl hh
                · exact goes_drew hh
              have h2' : w1.heap[l.g]? = some (.map ⟨es'⟩ c) := by rw [hw1]; exact h2
              have hset2 := run_setObj (P := E.P) (o' := .map ⟨es'.set i { a' with key := k, val := evalT tm y }⟩ c) h2' (by intro c T fr e; cases e)
              refine ⟨undef, _, ρ, .inr ⟨?_, rfl⟩, .tuple .nil, hg0.trans (goes_update hh1 (i := r) (l := l) hne h1 (.map es2 c) _ (fun q => getR_putR st.h r _ hbig q) (changed_obj (.map ⟨es'.set i { a' with key := k, val := evalT tm y }⟩ c) (lt_of_heap h2')) ?_)⟩
              · unfold Instr.mapUpdate
                rw [e]
                have hold : (((⟨es'⟩ : Array MapEntry)[i]?).map (·.key)).getD k = k := by
                  have : (⟨es'⟩ : Array MapEntry)[i]? = some a' := by simpa using g3
                  rw [this]
                  simp [g4.key, hkk]
                simp only [Sem.run_bind, hty, hgo, Result.andThen_ok, q1, q2, hold, p1, modify_set es' i _ a' g3, hset2, Sem.run_pure]
              · rw [hes2]
                exact .map (h3.set i ⟨rfl, hf, ru, g4.born⟩)
            · cases hset
          · cases he
        · rename_i hi
          injection he with he; injection he with e1 e2 e3
          subst e1; subst e2; subst e3
          obtain ⟨q1, r', q2, q3⟩ := findIn_run ok h3 hi w
          have q3' : r' = none := q3
          subst q3'
          have hset2 := run_setObj (P := E.P) (o' := .map ((⟨es'⟩ : Array MapEntry).push { key := k, val := evalT tm y, born := c }) (c + 1)) h2 (by intro c T fr e; cases e)
          refine ⟨undef, _, ρ, .inr ⟨?_, rfl⟩, .tuple .nil, goes_update hh (i := r) (l := l) hne h1 _ _ (fun q => getR_putR st.h r _ hbig q) (changed_obj (.map ((⟨es'⟩ : Array MapEntry).push { key := k, val := evalT tm y, born := c }) (c + 1)) (lt_of_heap h2)) ?_⟩
          · unfold Instr.mapUpdate
            rw [e]
            simp only [Sem.run_bind, hty, hgo, Result.andThen_ok, q1, q2, hset2, Sem.run_pure]
          · have ep : ((⟨es'⟩ : Array MapEntry).push { key := k, val := evalT tm y, born := c }) = ⟨es' ++ [{ key := k, val := evalT tm y, born := c }]⟩ := by
              apply Array.ext'; simp
            rw [ep]
            exact .map (h3.append (.cons ⟨rfl, hf, ru, rfl⟩ .nil))
        · cases he
      · cases he
    · cases he
  · cases he

theorem delete_does (ok : EnvOK E) (hh : HRel ρ (getR st.h) w) {argTypes : Array TypeId} {type : TypeId} {args args' : List Value} (ha : VRels ρ args args') (he : opDelete E st argTypes.toList args = some (.val v h' n')) :
    Does E.P ρ st.h st.n w (do pure (.value (← Builtin.delete_ argTypes type ⟨args'⟩))) v h' n' := by
  unfold opDelete at he
  split at he
  · rename_i t ts r k ht
    have hat : argTypes[0]? = some t := by rw [← Array.getElem?_toList, ht]; rfl
    cases ha with
    | cons hm hr =>
    cases hr with
    | cons hk hr2 =>
    cases hr2
    rename_i k'
    split at he
    · rename_i d hd
      have hty := (ok.ti hd).underlying (w := w)
      split at he
      · rename_i kt et es c hde hmap
        rw [hde] at hty
        rw [cond_eq_ite] at he
        split at he
        · rename_i hcond
          rw [Bool.and_eq_true, flat2R_eq, blt_iff, decide_eq_true_eq] at hcond
          obtain ⟨hf, hbig⟩ := hcond
          have e := VRel.eq_of_flat2 hf hk
          subst e
          obtain ⟨l, es', h1, h2, h3⟩ := map_at hh hmap
          cases hm with
          | map hi =>
          rw [h1] at hi; injection hi with hi; subst hi
          have hgo := run_getObj (P := E.P) h2 (by intro c T fr e; cases e)
          have hne : getR st.h r ≠ none := by rw [mapOf_some hmap]; simp
          have a0 : (⟨[.map (some l.g), k']⟩ : Array Value)[0]? = some (.map (some l.g)) := rfl
          have a1 : (⟨[.map (some l.g), k']⟩ : Array Value)[1]? = some k' := rfl
          split at he
          · rename_i i hi
            injection he with he; injection he with e1 e2 e3
            subst e1; subst e2; subst e3
            obtain ⟨q1, r', q2, q3⟩ := findIn_run ok h3 hi w
            obtain ⟨a, a', _, g2, g3, g4, g5⟩ := q3
            subst g5
            have hset2 := run_setObj (P := E.P) (o' := .map ((⟨es'⟩ : Array MapEntry).eraseIdxIfInBounds i) c) h2 (by intro c T fr e; cases e)
            refine ⟨.tuple ⟨[]⟩, _, ρ, .inl ?_, .tuple .nil, goes_update hh (i := r) (l := l) hne h1 _ _ (fun q => getR_putR st.h r _ hbig q) (changed_obj (.map ((⟨es'⟩ : Array MapEntry).eraseIdxIfInBounds i) c) (lt_of_heap h2)) ?_⟩
            · unfold Builtin.delete_
              simp only [hat, a0, a1, Sem.run_bind, hty, hgo, Result.andThen_ok, q1, q2, hset2, Sem.run_pure]
            · have ep : ((⟨es'⟩ : Array MapEntry).eraseIdxIfInBounds i) = ⟨es'.eraseIdx i⟩ := by
                apply Array.ext'
                simp [Array.eraseIdxIfInBounds]
                rw [Nat.sub_zero] at g3
                have : i < es'.length := (List.getElem?_eq_some_iff.1 g3).1
                simp [this]
              rw [ep, rid_eq]
              exact .map (h3.erase i)
          · rename_i hi
            injection he with he; injection he with e1 e2 e3
            subst e1; subst e2; subst e3
            obtain ⟨q1, r', q2, q3⟩ := findIn_run ok h3 hi w
            have q3' : r' = none := q3
            subst q3'
            have hset2 := run_setObj (P := E.P) (o' := .map ⟨es'⟩ c) h2 (by intro c T fr e; cases e)
            refine ⟨.tuple ⟨[]⟩, _, ρ, .inl ?_, .tuple .nil, goes_update hh (i := r) (l := l) hne h1 (.map es c) _ (fun q => ?_) (changed_obj (.map ⟨es'⟩ c) (lt_of_heap h2)) (.map h3)⟩
            · unfold Builtin.delete_
              simp only [hat, a0, a1, Sem.run_bind, hty, hgo, Result.andThen_ok, q1, q2, hset2, Sem.run_pure]
            · by_cases hq : q = r
              · rw [if_pos hq, hq, mapOf_some hmap]
              · rw [if_neg hq]
          · cases he
        · cases he
      · cases he
    · cases he
  · cases he

end
end Go.Ev
end

section
/- A ground evaluator for closed calls, part Nd: iterators. -/
namespace Go.Ev
open Go.RowKit

section
variable {E : Env} {ρ : Ren} {st : St} {tm : Array Value} {w : World} {v : Value} {h' : Tr RO} {n' : Nat}

theorem makeMap2_does (ok : EnvOK E) (hb : Base E ρ st.n) (hs : SRel ρ st.σ tm) (hh : HRel ρ (getR st.h) w) (hf : Fresh ρ st.n n') {t : TypeId} {r : Option Operand} (he : opMakeMap E st t r = some (.val v h' n')) :
    Does E.P ρ st.h st.n w (do pure (.value (← Instr.makeMap t (r.map (evalT tm))))) v h' n' := by
  unfold opMakeMap at he
  split at he
  · exact makeMap_does hh hf he
  · rename_i x
    split at he
    · rename_i d i hd hx
      have hu := (ok.ti hd).underlying (w := w)
      split at he
      · rename_i k e hde
        rw [hde] at hu
        have hi := VRel.eq_of_flat rfl (opnd_rel hb hs hx)
        refine does_fresh hh he hf ⟨w.heap.size, 0, 0, ⟨0, none, false⟩⟩ (.map #[] 0) (.map (some w.heap.size)) { w with heap := w.heap.push (.map #[] 0) } ?_ rfl rfl rfl rfl rfl (fun _ => .map .nil) (fun _ => VRel.map (more_same ρ st.n ⟨w.heap.size, 0, 0, ⟨0, none, false⟩⟩))
        have hi2 : ∃ q, (asInt (evalT tm x)).run E.P w = .ok q w := by rw [hi]; exact ⟨i, by simp [asInt, asIntOf]⟩
        obtain ⟨q, hi2⟩ := hi2
        unfold Instr.makeMap
        simp only [Option.map_some, Sem.run_bind, hu, Result.andThen_ok, hi2, Sem.run_pure]
        simp [newObj, Sem.run]
      · cases he
    · cases he

theorem range_does (ok : EnvOK E) (hb : Base E ρ st.n) (hs : SRel ρ st.σ tm) (hh : HRel ρ (getR st.h) w) (hf : Fresh ρ st.n n') {t : TypeId} {x : Operand} (he : opRange E st t x = some (.val v h' n')) :
    Does E.P ρ st.h st.n w (do pure (.value (← Instr.range t (evalT tm x)))) v h' n' := by
  unfold opRange at he
  split at he
  · rename_i d u hd hx
    have hu := (ok.ti hd).underlying (w := w)
    have rx := opnd_rel hb hs hx
    have fin : ∀ (obj : RO) (it : Obj), (fresh st.h st.n obj fun n => .pointer (some ⟨n, 0, none⟩)) = some (.val v h' n') →
        (Instr.range t (evalT tm x)).run E.P w = (do pure (.pointer (some ⟨← newObj it, 0, none⟩)) : Sem Value).run E.P w →
        (∀ ρ' l, l.sh = 0 → Grows ρ ρ' → ORel ρ' l obj it) → Does E.P ρ st.h st.n w (do pure (.value (← Instr.range t (evalT tm x)))) v h' n' := by
      intro obj it hfr hrun hrel
      refine does_fresh hh hfr hf ⟨w.heap.size, 0, 0, ⟨0, none, false⟩⟩ it (.pointer (some ⟨w.heap.size, 0, none⟩)) { w with heap := w.heap.push it } ?_ rfl rfl rfl rfl rfl (fun g => hrel _ _ rfl g) (fun _ => VRel.ptr (o := 0) (more_same ρ st.n ⟨w.heap.size, 0, 0, ⟨0, none, false⟩⟩))
      rw [Sem.run_bind, hrun]
      simp [newObj, Sem.run]
    split at he
    · rename_i s hde
      rw [hde] at hu
      refine fin _ (.stringIter s 0) he ?_ (fun ρ' l z g => .stringIter z s 0)
      rw [VRel.eq_of_flat rfl rx]
      unfold Instr.range
      simp only [Sem.run_bind, hu, Result.andThen_ok, Sem.run_pure]
    · rename_i hde
      rw [hde] at hu
      refine fin _ (.mapIter none 0 #[] 0) he ?_ (fun ρ' l z g => .nilIter z 0 [] 0)
      rw [VRel.eq_of_flat rfl rx]
      unfold Instr.range
      simp only [Sem.run_bind, hu, Result.andThen_ok, Sem.run_pure]
    · rename_i r hde
      rw [hde] at hu
      split at he
      · rename_i es c hmap
        obtain ⟨l, es', h1, h2, h3⟩ := map_at hh hmap
        generalize hx' : evalT tm x = x' at rx fin
        cases rx with
        | map hi =>
        rw [h1] at hi; injection hi with hi; subst hi
        have hgo := run_getObj (P := E.P) h2 (by intro c T fr e; cases e)
        refine fin _ (.mapIter (some l.g) c #[] c) he ?_ (fun ρ' l z g => .mapIter z (g _ _ h1) c [] c)
        unfold Instr.range
        simp only [Sem.run_bind, hu, hgo, Result.andThen_ok, Sem.run_pure]
      · cases he
    · cases he
  · cases he

theorem mapEntry_does (ok : EnvOK E) (hb : Base E ρ st.n) (hs : SRel ρ st.σ tm) (hh : HRel ρ (getR st.h) w) {t : TypeId} {x ix : Operand} (he : opMapEntry E st t x ix = some (.val v h' n')) :
    Does E.P ρ st.h st.n w (do pure (.value (← Instr.mapEntry t (evalT tm x) (evalT tm ix)))) v h' n' := by
  unfold opMapEntry at he
  split at he
  · rename_i d r k hd hm hk
    have hty := (ok.ti hd).underlying (w := w)
    have rm := opnd_rel hb hs hm
    have rk := opnd_rel hb hs hk
    split at he
    · rename_i kt et es c hde hmap
      rw [hde] at hty
      rw [cond_eq_ite] at he
      split at he
      · rename_i hcond
        rw [Bool.and_eq_true, flat2R_eq, blt_iff, decide_eq_true_eq] at hcond
        obtain ⟨hf, hbig⟩ := hcond
        have e := VRel.eq_of_flat2 hf rk
        obtain ⟨l, es', h1, h2, h3⟩ := map_at hh hmap
        generalize hx : evalT tm x = x' at rm
        cases rm with
        | map hi =>
        rw [h1] at hi; injection hi with hi; subst hi
        have hgo := run_getObj (P := E.P) h2 (by intro c T fr e; cases e)
        have hne : getR st.h r ≠ none := by rw [mapOf_some hmap]; simp
        split at he
        · rename_i i hi
          split at he
          · rename_i a hn
            rw [cond_eq_ite] at he
            split at he
            · rename_i hkey
              injection he with he; injection he with e1 e2 e3
              subst e1; subst e2; subst e3
              obtain ⟨q1, r', q2, q3⟩ := findIn_run ok h3 hi w
              obtain ⟨a2, a', _, g2, g3, g4, g5⟩ := q3
              subst g5
              rw [Nat.sub_zero] at g2 g3
              rw [nth_eq, g2] at hn
              injection hn with hn; subst hn
              have hkk := eqV_eq 8 hkey
              obtain ⟨w1, p1, p2⟩ := keyStays (P := E.P) (w := w) k
              have hw1 : w1.heap = w.heap := by rcases p2 with rfl | rfl <;> rfl
              have hg0 : Goes ρ (getR st.h) st.n w ρ (getR st.h) st.n w1 := by
                rcases p2 with rfl | rfl
                · exact Goes.refl hh
                · exact goes_drew hh
              have h2' : w1.heap[l.g]? = some (.map ⟨es'⟩ c) := by rw [hw1]; exact h2
              have hsame : es'.set i { a' with key := k } = es' := by
                have hlt : i < es'.length := (List.getElem?_eq_some_iff.1 g3).1
                have hget : es'[i] = a' := (List.getElem?_eq_some_iff.1 g3).2
                have : ({ a' with key := k } : MapEntry) = es'[i] := by
                  rw [hget, ← hkk, ← g4.key]
                rw [this]; simp
              have hmod : ((⟨es'⟩ : Array MapEntry).modify i fun e => { e with key := k }) = ⟨es'⟩ := by rw [modify_set es' i _ a' g3, hsame]
              have hset2 := run_setObj (P := E.P) (o' := .map ((⟨es'⟩ : Array MapEntry).modify i fun e => { e with key := k }) c) h2' (by intro c T fr e; cases e)
              rw [hmod] at hset2
              refine ⟨.tuple ⟨[a'.val, goInt a'.born]⟩, _, ρ, .inl ?_, .tuple (.cons g4.val (.cons (by rw [g4.born]; exact .int _ _) .nil)), hg0.trans (goes_update hg0.rel (i := r) (l := l) hne h1 (.map es c) _ (fun q => ?_) (changed_obj (.map ⟨es'⟩ c) (lt_of_heap h2')) (.map h3))⟩
              · unfold Instr.mapEntry
                rw [e]
                have hold : (((⟨es'⟩ : Array MapEntry)[i]?).map (·.key)).getD k = k := by
                  have : (⟨es'⟩ : Array MapEntry)[i]? = some a' := by simpa using g3
                  rw [this]
                  simp [g4.key, hkk]
                have hborn : (((⟨es'⟩ : Array MapEntry)[i]?).map (fun x => (x.born : Int))).getD 0 = (a'.born : Int) := by
                  have : (⟨es'⟩ : Array MapEntry)[i]? = some a' := by simpa using g3
                  rw [this]
                  simp
                simp only [Sem.run_bind, hty, hgo, Result.andThen_ok, q1, q2, hold, p1, hmod, hset2, hborn, Sem.run_pure]
              · by_cases hq : q = r
                · rw [if_pos hq, hq, mapOf_some hmap]
                · rw [if_neg hq]
            · cases he
          · cases he
        · rename_i hi
          split at he
          · rename_i j hj
            split at he
            · rename_i z hz
              injection he with he; injection he with e1 e2 e3
              subst e1; subst e2; subst e3
              obtain ⟨q1, r', q2, q3⟩ := findIn_run ok h3 hi w
              have q3' : r' = none := q3
              subst q3'
              obtain ⟨z1, z2⟩ := zeroOf_eq (ok.ti hj) hz
              have hset2 := run_setObj (P := E.P) (o' := .map ((⟨es'⟩ : Array MapEntry).push { key := k, val := z, born := c }) (c + 1)) h2 (by intro c T fr e; cases e)
              refine ⟨.tuple ⟨[z, goInt c]⟩, _, ρ, .inl ?_, .tuple (.cons (VRel.of_flat2 z2) (.cons (.int _ _) .nil)), goes_update hh (i := r) (l := l) hne h1 _ _ (fun q => getR_putR st.h r _ hbig q) (changed_obj (.map ((⟨es'⟩ : Array MapEntry).push { key := k, val := z, born := c }) (c + 1)) (lt_of_heap h2)) ?_⟩
              · unfold Instr.mapEntry
                rw [e]
                simp only [Sem.run_bind, hty, hgo, Result.andThen_ok, q1, q2, z1, hset2, Sem.run_pure]
              · have ep : ((⟨es'⟩ : Array MapEntry).push { key := k, val := z, born := c }) = ⟨es' ++ [{ key := k, val := z, born := c }]⟩ := by
                  apply Array.ext'; simp
                rw [ep]
                exact .map (h3.append (.cons ⟨rfl, hf, VRel.of_flat2 z2, rfl⟩ .nil))
            · cases he
          · cases he
        · cases he
      · cases he
    · cases he
  · cases he

theorem setBorn_cons (e : MapEntry) (l : List MapEntry) (b : Nat) (v : Value) : setBorn (e :: l) b v = if e.born = b then some ({ key := e.key, val := v, born := e.born } :: l) else consO e (setBorn l b v) := by
  show (Bool.rec (motive := fun _ => Option (List MapEntry)) (consO e (setBorn l b v)) (some ({ key := e.key, val := v, born := e.born } :: l)) (Nat.beq e.born b)) = _
  rw [beq_iff]
  by_cases h : e.born = b <;> simp [h]

theorem setBorn_rel {b : Nat} {v v' : Value} (hv : VRel ρ v v') : ∀ {es es' r : List MapEntry}, ERels ρ es es' → setBorn es b v = some r → ∃ i e', es'.findIdx? (fun e => (e.born : Int) == (b : Int)) = some i ∧ es'[i]? = some e' ∧ ERels ρ r (es'.set i { e' with val := v' })
  | _, _, r, .nil, h => by cases h
  | _, _, r, .cons (e := x) (e' := x') (es := es) (es' := es') hx hs, h => by
    rw [setBorn_cons] at h
    rw [List.findIdx?_cons]
    by_cases hb : x.born = b
    · rw [if_pos hb] at h
      injection h with h; subst h
      have : ((x'.born : Int) == (b : Int)) = true := by rw [hx.born, hb]; simp
      rw [if_pos this]
      exact ⟨0, x', rfl, rfl, .cons ⟨hx.key, hx.fkey, hv, hx.born⟩ hs⟩
    · rw [if_neg hb] at h
      obtain ⟨q, h1, rfl⟩ := consO_some h
      have : ((x'.born : Int) == (b : Int)) = false := by rw [hx.born]; simp; omega
      rw [if_neg (by rw [this]; decide)]
      obtain ⟨i, e', k1, k2, k3⟩ := setBorn_rel hv hs h1
      refine ⟨i + 1, e', by rw [k1]; rfl, by simpa using k2, ?_⟩
      exact .cons hx k3

theorem entryStore_does (hb : Base E ρ st.n) (hs : SRel ρ st.σ tm) (hh : HRel ρ (getR st.h) w) {t : TypeId} {x s y : Operand} (he : opEntryStore E st x s y = some (.val v h' n')) :
    Does E.P ρ st.h st.n w (do Instr.entryStore t (evalT tm x) (evalT tm s) (evalT tm y); pure .skip) v h' n' := by
  unfold opEntryStore at he
  split at he
  · rename_i r b u hm hk hu
    have rm := opnd_rel hb hs hm
    have rk := VRel.eq_of_flat rfl (opnd_rel hb hs hk)
    have ru := opnd_rel hb hs hu
    split at he
    · rename_i es c hmap
      rw [cond_eq_ite] at he
      split at he
      · rename_i hcond
        rw [Bool.and_eq_true, blt_iff, blt_iff, decide_eq_true_eq, decide_eq_true_eq] at hcond
        obtain ⟨hbig, hb64⟩ := hcond
        obtain ⟨l, es', h1, h2, h3⟩ := map_at hh hmap
        generalize hx : evalT tm x = x' at rm
        cases rm with
        | map hi =>
        rw [h1] at hi; injection hi with hi; subst hi
        have hgo := run_getObj (P := E.P) h2 (by intro c T fr e; cases e)
        have hne : getR st.h r ≠ none := by rw [mapOf_some hmap]; simp
        split at he
        · rename_i es2 hset
          injection he with he; injection he with e1 e2 e3
          subst e1; subst e2; subst e3
          obtain ⟨i, e', k1, k2, k3⟩ := setBorn_rel ru h3 hset
          have hset2 := run_setObj (P := E.P) (o' := .map ⟨es'.set i { e' with val := evalT tm y }⟩ c) h2 (by intro c T fr e; cases e)
          refine ⟨undef, _, ρ, .inr ⟨?_, rfl⟩, .tuple .nil, goes_update hh (i := r) (l := l) hne h1 _ _ (fun q => getR_putR st.h r _ hbig q) (changed_obj (.map ⟨es'.set i { e' with val := evalT tm y }⟩ c) (lt_of_heap h2)) (.map k3)⟩
          have hint : (asInt (.int .i64 (.ofNat b))).run E.P w = .ok (b : Int) w := by
            simp [asInt, asIntOf]
          have hidx : (⟨es'⟩ : Array MapEntry).findIdx? (fun e => (e.born : Int) == (b : Int)) = some i := by simpa using k1
          unfold Instr.entryStore
          rw [rk]
          simp only [Sem.run_bind, hgo, Result.andThen_ok, hint, hidx, modify_set es' i _ e' k2, hset2, Sem.run_pure]
        · cases he
      · cases he
    · cases he
  · cases he

theorem cap_does (ok : EnvOK E) (hh : HRel ρ (getR st.h) w) {argTypes : Array TypeId} {type : TypeId} {args args' : List Value} (ha : VRels ρ args args') (he : opCap E st argTypes.toList args = some (.val v h' n')) :
    Does E.P ρ st.h st.n w (do pure (.value (← Builtin.cap_ argTypes type ⟨args'⟩))) v h' n' := by
  unfold opCap at he
  split at he
  · rename_i t x ht
    have hat : argTypes[0]? = some t := by rw [← Array.getElem?_toList, ht]; rfl
    cases ha with
    | cons hx hr =>
    cases hr
    rename_i x'
    have a0 : (⟨[x']⟩ : Array Value)[0]? = some x' := rfl
    split at he
    · rename_i d hd
      have hu := (ok.ti hd).underlying (w := w)
      split at he
      · rename_i n e hde
        rw [hde] at hu
        injection he with he; injection he with e1 e2 e3
        subst e1; subst e2; subst e3
        refine does_pure hh (v' := .int .i64 (.ofNat n)) ?_ (.int _ _)
        unfold Builtin.cap_
        simp only [hat, a0, Sem.run_bind, hu, Result.andThen_ok, Sem.run_pure]
        rfl
      · rename_i e n c hde
        rw [hde] at hu
        injection he with he; injection he with e1 e2 e3
        subst e1; subst e2; subst e3
        cases hx
        refine does_pure hh (v' := .int .i64 (.ofNat 0)) ?_ (.int _ _)
        unfold Builtin.cap_
        simp only [hat, a0, Sem.run_bind, hu, Result.andThen_ok, Sem.run_pure]
        rfl
      · cases he
    · cases he
  · cases he

theorem iter_at (hh : HRel ρ (getR st.h) w) {r : Nat} {o : RO} (he : getR st.h r = some o) : ∃ l o', ρ r = some l ∧ w.heap[l.g]? = some o' ∧ ORel ρ l o o' := hh.at_ r o he

theorem next_does (hb : Base E ρ st.n) (hs : SRel ρ st.σ tm) (hh : HRel ρ (getR st.h) w) {x : Operand} {b : Bool} {ty : TypeId} (he : opNext E st x b = some (.val v h' n')) :
    Does E.P ρ st.h st.n w (do pure (.value (← Instr.next (evalT tm x) b ty))) v h' n' := by
  unfold opNext at he
  split at he
  · rename_i r hx
    have rx := opnd_rel hb hs hx
    generalize hx' : evalT tm x = x' at rx
    cases rx with
    | ptr hi =>
    rename_i l
    split at he
    · rename_i s pos hit
      obtain ⟨l2, o', h1, h2, h3⟩ := iter_at hh hit
      rw [h1] at hi; injection hi with hi; subst hi
      have hne : getR st.h r ≠ none := by rw [hit]; simp
      cases h3 with
      | stringIter hz =>
      have hgo := run_getObj (P := E.P) h2 (by intro c T fr e; cases e)
      rw [hz, Nat.zero_add]
      rw [cond_eq_ite] at he
      split at he
      · rename_i hcond
        rw [blt_iff, decide_eq_true_eq, lenR_eq] at hcond
        have hp' : pos < s.size := by simpa using hcond
        split at he <;> rename_i hbig hdec
        case h_2 => cases he
        rename_i c width
        rw [blt_iff, decide_eq_true_eq] at hbig
        injection he with he; injection he with e1 e2 e3
        subst e1; subst e2; subst e3
        have hset := run_setObj (P := E.P) (o' := .stringIter s (pos + width)) h2 (by intro c T fr e; cases e)
        refine ⟨.tuple ⟨[.bool true, goInt pos, .int .i32 c]⟩, _, ρ, .inl ?_, .tuple (.cons (.bool _) (.cons (.int _ _) (.cons (.int _ _) .nil))), goes_update hh (i := r) (l := l2) hne h1 _ _ (fun q => getR_putR st.h r _ hbig q) (changed_obj (.stringIter s (pos + width)) (lt_of_heap h2)) (.stringIter hz s _)⟩
        unfold Instr.next
        simp only [Sem.run_bind, hgo, Result.andThen_ok, hp', if_true, hdec, hset, Sem.run_pure]
      · rename_i hcond
        injection he with he; injection he with e1 e2 e3
        subst e1; subst e2; subst e3
        have hp' : ¬ pos < s.size := by
          intro hp
          apply hcond
          rw [blt_iff, decide_eq_true_eq, lenR_eq]
          simpa using hp
        · refine does_pure hh (v' := over) ?_ (.tuple (.cons (.bool _) .nil))
          unfold Instr.next
          simp only [Sem.run_bind, hgo, Result.andThen_ok, hp', if_false, Sem.run_pure]
          rfl
    · rename_i a b c hit
      obtain ⟨l2, o', h1, h2, h3⟩ := iter_at hh hit
      rw [h1] at hi; injection hi with hi; subst hi
      cases h3 with
      | nilIter hz =>
      have hgo := run_getObj (P := E.P) h2 (by intro c T fr e; cases e)
      rw [hz, Nat.zero_add]
      injection he with he; injection he with e1 e2 e3
      subst e1; subst e2; subst e3
      refine does_pure hh (v' := over) ?_ (.tuple (.cons (.bool _) .nil))
      unfold Instr.next
      simp only [Sem.run_bind, hgo, Result.andThen_ok, Sem.run_pure]
      rfl
    · cases he
  · cases he

theorem lastOf_eq : ∀ (l : List Nat), lastOf l = l.getLast?
  | [] => rfl
  | [x] => rfl
  | x :: y :: l => by
    have e : lastOf (x :: y :: l) = (match lastOf (y :: l) with | some z => some z | none => some x) := rfl
    rw [e, lastOf_eq (y :: l)]
    cases h : (y :: l).getLast? with
    | none => simp at h
    | some z => simp [List.getLast?_cons_cons, h]

theorem bornAt_rel {ρ : Ren} {b : Nat} : ∀ {es es' : List MapEntry} {e : MapEntry}, ERels ρ es es' → bornAt es b = some e → ∃ e', es'.find? (fun x => x.born == b) = some e' ∧ ERel ρ e e'
  | _, _, e, .nil, h => by cases h
  | _, _, e, .cons (e := x) (e' := x') (es := es) hx hs, h => by
    have e1 : bornAt (x :: es) b = (Bool.rec (motive := fun _ => Option MapEntry) (bornAt es b) (some x) (Nat.beq x.born b)) := rfl
    rw [e1] at h
    rw [List.find?_cons, hx.born]
    cases hb : Nat.beq x.born b with
    | true =>
      rw [hb] at h
      injection h with h; subst h
      have : (x.born == b) = true := by rw [beq_iff] at hb; simpa using hb
      rw [this]
      exact ⟨x', rfl, hx⟩
    | false =>
      rw [hb] at h
      have : (x.born == b) = false := by rw [beq_iff] at hb; simpa using hb
      rw [this]
      exact bornAt_rel hs h

theorem entry_does (hb : Base E ρ st.n) (hs : SRel ρ st.σ tm) (hh : HRel ρ (getR st.h) w) {x : Operand} (he : opEntry E st x = some (.val v h' n')) :
    Does E.P ρ st.h st.n w (do pure (.value (← Instr.entry (evalT tm x)))) v h' n' := by
  unfold opEntry at he
  split at he
  · rename_i r hx
    have rx := opnd_rel hb hs hx
    generalize hx' : evalT tm x = x' at rx
    cases rx with
    | ptr hi =>
    rename_i l
    split at he
    · rename_i m since seen stepped hit
      obtain ⟨l2, o', h1, h2, h3⟩ := iter_at hh hit
      rw [h1] at hi; injection hi with hi; subst hi
      cases h3 with
      | mapIter hz hm =>
      rename_i lm
      rw [hz, Nat.zero_add]
      have hgo := run_getObj (P := E.P) h2 (by intro c T fr e; cases e)
      split at he
      · rename_i b es c hlast hmap
        rw [cond_eq_ite, beq_iff] at he
        split at he
        · rename_i hc
          rw [decide_eq_true_eq] at hc
          subst hc
          split at he
          · rename_i e hborn
            injection he with he; injection he with e1 e2 e3
            subst e1; subst e2; subst e3
            obtain ⟨l3, es', k1, k2, k3⟩ := map_at hh hmap
            rw [k1] at hm; injection hm with hm; subst hm
            have hgo2 := run_getObj (P := E.P) k2 (by intro c T fr e; cases e)
            obtain ⟨e', q1, q2⟩ := bornAt_rel k3 hborn
            rw [lastOf_eq] at hlast
            have hback : (⟨seen⟩ : Array Nat).back? = some b := by simpa using hlast
            refine does_pure hh (v' := .tuple ⟨[e'.key, e'.val]⟩) ?_ ?_
            · unfold Instr.entry
              have hf : (⟨es'⟩ : Array MapEntry).find? (fun x => x.born == b) = some e' := by simpa using q1
              simp only [Sem.run_bind, hgo, Result.andThen_ok, hback, hgo2, bne_self_eq_false, Bool.false_eq_true, if_false, hf, Sem.run_pure]
            · rw [q2.key]
              exact .tuple (.cons (VRel.of_flat2 q2.fkey) (.cons q2.val .nil))
          · cases he
        · cases he
      · cases he
    · cases he
  · cases he

end
end Go.Ev
end

section
/- A ground evaluator for closed calls, part Ne: equality of objects. -/
namespace Go.Ev
open Go.RowKit

theorem eqT_eq {a b : Option TypeId} (h : eqT a b = true) : a = b := by
  unfold eqT at h
  split at h
  · rfl
  · rw [Nat.eq_of_beq_eq_true h]
  · cases h

theorem eqE_eq {a b : MapEntry} (h : eqE a b = true) : a = b := by
  unfold eqE at h
  rw [Bool.and_eq_true, Bool.and_eq_true] at h
  obtain ⟨⟨h1, h2⟩, h3⟩ := h
  cases a; cases b
  simp only at h1 h2 h3
  rw [eqV_eq 8 h1, eqV_eq 8 h2, Nat.eq_of_beq_eq_true h3]

theorem eqRO_eq {a b : RO} (h : eqRO a b = true) : a = b := by
  unfold eqRO at h
  split at h
  · rename_i es c
    split at h
    · rename_i es' c'
      simp only [Bool.and_eq_true] at h
      obtain ⟨⟨⟨h1, h2⟩, h3⟩, h4⟩ := h
      cases es; cases es'
      simp only at h1 h2 h3
      rw [eqB_dec, decide_eq_true_eq] at h3
      rw [Nat.eq_of_beq_eq_true h1, eqT_eq h2, h3, eqL_eq (fun _ _ => eqV_eq 8) h4]
    · cases h
  · rename_i fz es c
    split at h
    · rename_i fz' es' c'
      simp only [Bool.and_eq_true] at h
      obtain ⟨h0, ⟨⟨h1, h2⟩, h3⟩, h4⟩ := h
      cases es; cases es'
      simp only at h1 h2 h3
      rw [eqB_dec, decide_eq_true_eq] at h3
      rw [Nat.eq_of_beq_eq_true h0, Nat.eq_of_beq_eq_true h1, eqT_eq h2, h3, eqL_eq (fun _ _ => eqV_eq 8) h4]
    · cases h
  · rename_i l k
    split at h
    · rename_i l' k'
      rw [Bool.and_eq_true] at h
      rw [eqL_eq (fun _ _ => eqE_eq) h.1, Nat.eq_of_beq_eq_true h.2]
    · cases h
  · split at h
    · rw [eqL_eq (fun _ _ => eqE_eq) h]
    · cases h
  · cases h

theorem eqP_eq {a b : Nat × Option RO} (h : eqP a b = true) : a = b := by
  obtain ⟨i, x⟩ := a
  obtain ⟨j, y⟩ := b
  unfold eqP at h
  rw [Bool.and_eq_true] at h
  obtain ⟨h1, h2⟩ := h
  have h1' : i = j := Nat.eq_of_beq_eq_true h1
  subst h1'
  cases x with
  | none => cases y with
    | none => rfl
    | some y => cases h2
  | some x => cases y with
    | none => cases h2
    | some y => rw [eqRO_eq h2]

theorem changedL_cons (h h2 : Tr RO) (i : Nat) (F : List Nat) : changedL h h2 (i :: F) = if eqP (i, getR h i) (i, getR h2 i) = true then changedL h h2 F else i :: changedL h h2 F := by
  show (Bool.rec (motive := fun _ => List Nat) (i :: changedL h h2 F) (changedL h h2 F) (eqP (i, getR h i) (i, getR h2 i))) = _
  cases eqP (i, getR h i) (i, getR h2 i) <;> rfl

theorem changedL_sub {h h2 : Tr RO} {i : Nat} : ∀ {F : List Nat}, i ∈ changedL h h2 F → i ∈ F
  | [], k => by cases k
  | j :: F, k => by
    rw [changedL_cons] at k
    split at k
    · exact List.mem_cons_of_mem _ (changedL_sub k)
    · rcases List.mem_cons.1 k with rfl | k
      · simp
      · exact List.mem_cons_of_mem _ (changedL_sub k)

theorem changedL_not {h h2 : Tr RO} {i : Nat} : ∀ {F : List Nat}, i ∈ F → i ∉ changedL h h2 F → getR h i = getR h2 i
  | [], k, _ => by cases k
  | j :: F, k, n => by
    rw [changedL_cons] at n
    split at n
    · rename_i e
      rcases List.mem_cons.1 k with rfl | k
      · exact (Prod.mk.inj (eqP_eq e)).2
      · exact changedL_not k n
    · rcases List.mem_cons.1 k with rfl | k
      · exact absurd (by simp) n
      · exact changedL_not k (fun q => n (List.mem_cons_of_mem _ q))

end Go.Ev
end

