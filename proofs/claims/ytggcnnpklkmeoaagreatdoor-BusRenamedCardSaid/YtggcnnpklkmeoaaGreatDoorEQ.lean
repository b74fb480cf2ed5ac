/- A ground evaluator for closed calls, part Rd: steps through maps. -/
import Derived.Test.YtggcnnpklkmeoaaGreatDoorEP
section
namespace Go.Ev
open Go.RowKit

theorem leftOf_cons (e : MapEntry) (es : List MapEntry) (seen : List Nat) : leftOf (e :: es) seen = if memN e.born seen = true then leftOf es seen else e :: leftOf es seen := by
  show (Bool.rec (motive := fun _ => List MapEntry) (e :: leftOf es seen) (leftOf es seen) (memN e.born seen)) = _
  cases memN e.born seen <;> rfl

theorem bornBelow_ok {since : Nat} : ∀ {es : List MapEntry}, bornBelow es since = true → ∀ e ∈ es, e.born < since
  | [], _, e, he => by cases he
  | x :: es, h, e, he => by
    have e1 : bornBelow (x :: es) since = (Bool.rec (motive := fun _ => Bool) false (bornBelow es since) (Nat.blt x.born since)) := rfl
    rw [e1, blt_iff] at h
    by_cases hx : x.born < since
    · rw [decide_eq_true hx] at h
      rcases List.mem_cons.1 he with rfl | he
      · exact hx
      · exact bornBelow_ok h e he
    · rw [decide_eq_false hx] at h; cases h

theorem memN_contains (b : Nat) (l : List Nat) : memN b l = l.contains b := by
  rw [Bool.eq_iff_iff, memN_iff]; simp

theorem left_rel {ρ : Ren} {seen : List Nat} : ∀ {es es' : List MapEntry}, ERels ρ es es' → ERels ρ (leftOf es seen) (es'.filter fun e => !seen.contains e.born)
  | _, _, .nil => .nil
  | _, _, .cons (e := e) (e' := e') h hs => by
    rw [leftOf_cons, List.filter_cons, h.born, memN_contains]
    by_cases hc : seen.contains e.born = true
    · rw [if_pos hc, if_neg (by rw [hc]; decide)]; exact left_rel hs
    · have hc' : seen.contains e.born = false := by simpa using hc
      rw [if_neg hc, if_pos (by rw [hc']; rfl)]; exact .cons h (left_rel hs)

theorem ERels.born_lt {ρ : Ren} {since : Nat} : ∀ {es es' : List MapEntry}, ERels ρ es es' → (∀ e ∈ es, e.born < since) → ∀ e ∈ es', e.born < since
  | _, _, .nil, _, e, he => by cases he
  | _, _, .cons h hs, hb, e, he => by
    rcases List.mem_cons.1 he with rfl | he
    · rw [h.born]; exact hb _ (by simp)
    · exact hs.born_lt (fun e he => hb e (by simp [he])) e he

theorem stepsOf_get (m since : Nat) (seen : List Nat) (clock : Nat) : ∀ (l : List MapEntry) (i : Nat) (e : MapEntry), l[i]? = some e → (.tuple ⟨[.bool true, e.key, e.val]⟩, RO.mapIter (some m) since (seen ++ [e.born]) clock) ∈ stepsOf m since seen clock l
  | [], i, e, h => by simp at h
  | x :: l, 0, e, h => by
    have hx : x = e := by simpa using h
    subst hx
    exact List.mem_cons_self ..
  | x :: l, i + 1, e, h => List.mem_cons_of_mem _ (stepsOf_get m since seen clock l i e (by simpa using h))

section
variable {E : Env} {ρ : Ren} {st : St} {tm : Array Value} {w : World}

theorem stepsOf_nil {m since : Nat} {seen : List Nat} {clock : Nat} {l : List MapEntry} (h : stepsOf m since seen clock l = []) : l = [] := by
  cases l with
  | nil => rfl
  | cons x l => cases h

theorem choose_map {P : Program} {k : Nat} (hk : 0 < k) : ∃ c w1, c < k ∧ (choose (.mapNext k)).run P w = .ok c w1 ∧ (w1 = w ∨ w1 = w.drew) := by
  by_cases hf : (Question.mapNext k).forced = true
  · exact ⟨0, w, hk, by simp [choose, Sem.run, hf], .inl rfl⟩
  · have hf' : (Question.mapNext k).forced = false := by simpa using hf
    exact ⟨(Question.mapNext k).cut (w.tape w.drawn (.mapNext k)), w.drew, Nat.mod_lt _ hk, by simp [choose, Sem.run, hf'], .inr rfl⟩

/-- A step through a map: one of the ways is the true one. -/
theorem mapSteps_ok (hb : Base E ρ st.n) (hs : SRel ρ st.σ tm) (hh : HRel ρ (getR st.h) w) {x : Operand} {r : Nat} {ps : List (Value × RO)} (he : mapSteps E st x = some (r, ps)) (ty : TypeId) :
    (ps = [] ∧ (Instr.next (evalT tm x) false ty).run E.P w = .ok over w) ∨
    (∃ p ∈ ps, ∃ v' w', (Instr.next (evalT tm x) false ty).run E.P w = .ok v' w' ∧ VRel ρ p.1 v' ∧ Goes ρ (getR st.h) st.n w ρ (getR (putR st.h r (some p.2))) st.n w') := by
  unfold mapSteps at he
  split at he
  · rename_i r0 hx
    have rx := opnd_rel hb hs hx
    generalize hx' : evalT tm x = x' at rx
    cases rx with
    | ptr hi =>
    rename_i l
    split at he
    · rename_i m since seen stepped hit
      obtain ⟨l2, o', h1, h2, h3⟩ := iter_at hh hit
      rw [h1] at hi; injection hi with hi; subst hi
      cases h3 with
      | mapIter hz hm =>
      rename_i lm
      have hgo := run_getObj (P := E.P) h2 (by intro c T fr e; cases e)
      split at he
      · rename_i es clock hmap
        rw [cond_eq_ite] at he
        split at he
        · rename_i hcond
          rw [Bool.and_eq_true, Bool.and_eq_true, ble_iff, blt_iff, decide_eq_true_eq, decide_eq_true_eq] at hcond
          obtain ⟨⟨c1, c2⟩, c3⟩ := hcond
          injection he with he; injection he with e1 e2
          subst e1; subst e2
          obtain ⟨l3, es', k1, k2, k3⟩ := map_at hh hmap
          rw [k1] at hm; injection hm with hm; subst hm
          have hgo2 := run_getObj (P := E.P) k2 (by intro c T fr e; cases e)
          have hbl := k3.born_lt (bornBelow_ok c1)
          have hleft := left_rel (seen := seen) k3
          rw [hz, Nat.zero_add]
          -- what the model reckons
          have hall : (!(⟨seen⟩ : Array Nat).isEmpty && !(⟨es'⟩ : Array MapEntry).isEmpty && (⟨es'⟩ : Array MapEntry).all (·.born ≥ stepped)) = false := by
            cases es' with
            | nil => simp
            | cons a as =>
              have ha := hbl a (by simp)
              have : (decide (a.born ≥ stepped)) = false := by simp; omega
              simp [this]
          generalize hL : (es'.filter fun e => !seen.contains e.born) = left' at hleft
          have hlb : ∀ e ∈ left', e.born < since := by
            intro e he
            rw [← hL] at he
            exact hbl e (List.mem_filter.1 he).1
          have hf1 : ((⟨es'⟩ : Array MapEntry).filter fun e => !(⟨seen⟩ : Array Nat).contains e.born) = ⟨left'⟩ := by
            rw [← hL]
            apply Array.ext'
            simp
          have hold : ((⟨left'⟩ : Array MapEntry).filter (·.born < since)) = ⟨left'⟩ := by
            apply Array.ext'
            rw [Array.toList_filter]
            exact List.filter_eq_self.2 (fun e he => by simpa using hlb e he)
          have hnew : ((⟨left'⟩ : Array MapEntry).filter (·.born ≥ since)) = #[] := by
            apply Array.ext'
            rw [Array.toList_filter]
            exact List.filter_eq_nil_iff.2 (fun e he => by have := hlb e he; simpa using this)
          cases hle : left' with
          | nil =>
            left
            have hl0 : leftOf es seen = [] := by
              rw [hle] at hleft
              have := hleft.length
              exact List.length_eq_zero_iff.1 (by simpa using this.symm)
            refine ⟨by rw [hl0]; rfl, ?_⟩
            rw [hle] at hf1 hold hnew
            unfold Instr.next
            simp only [Sem.run_bind, hgo, hgo2, Result.andThen_ok, hall, Bool.false_eq_true, if_false, hf1, hold, hnew]
            simp [choose, Sem.run, Question.forced, over]
          | cons a as =>
            right
            rw [hle] at hf1 hold hnew hleft
            have hch : ∃ c w1, c < (a :: as).length ∧ (choose (.mapNext (a :: as).length)).run E.P w = .ok c w1 ∧ w1.heap = w.heap ∧ Goes ρ (getR st.h) st.n w ρ (getR st.h) st.n w1 := by
              obtain ⟨c, w1, q1, q2, q3⟩ := choose_map (P := E.P) (w := w) (k := (a :: as).length) (by simp)
              rcases q3 with rfl | rfl
              · exact ⟨c, _, q1, q2, rfl, Goes.refl hh⟩
              · exact ⟨c, _, q1, q2, rfl, goes_drew hh⟩
            obtain ⟨c, w1, hc, hcr, hw1, hg0⟩ := hch
            obtain ⟨e', he'⟩ : ∃ e', (a :: as)[c]? = some e' := ⟨(a :: as)[c], by simp⟩
            obtain ⟨e, he⟩ : ∃ e, (leftOf es seen)[c]? = some e := by
              have := hleft.length
              exact ⟨(leftOf es seen)[c]'(by omega), by simp⟩
            obtain ⟨e2, q1, q2⟩ := hleft.get he
            rw [he'] at q1; injection q1 with q1; subst q1
            have h2' : w1.heap[l2.g]? = some (.mapIter (some l3.g) since ⟨seen⟩ stepped) := by rw [hw1]; exact h2
            have hset := run_setObj (P := E.P) (o' := .mapIter (some l3.g) since ((⟨seen⟩ : Array Nat).push e'.born) clock) h2' (by intro c T fr e; cases e)
            have hh1 : HRel ρ (getR st.h) w1 := hg0.rel
            refine ⟨_, stepsOf_get m since seen clock _ c e he, .tuple ⟨[.bool true, e'.key, e'.val]⟩, _, ?_, ?_, hg0.trans (goes_update hh1 (i := r0) (l := l2) (by rw [hit]; simp) h1 _ _ (fun q => getR_putR st.h r0 _ c3 q) (changed_obj (.mapIter (some l3.g) since ((⟨seen⟩ : Array Nat).push e'.born) clock) (lt_of_heap h2')) ?_)⟩
            · have hcand : ((#[] : Array (Option MapEntry)) ++ ((⟨a :: as⟩ : Array MapEntry) ++ #[]).map some)[c]? = some (some e') := by
                have e0 : ((#[] : Array (Option MapEntry)) ++ ((⟨a :: as⟩ : Array MapEntry) ++ #[]).map some) = ⟨(a :: as).map some⟩ := by
                  apply Array.ext'; simp
                rw [e0]
                rw [List.getElem?_toArray, List.getElem?_map, he']; rfl
              have hsz : ((#[] : Array (Option MapEntry)) ++ ((⟨a :: as⟩ : Array MapEntry) ++ #[]).map some).size = (a :: as).length := by simp
              have hem : (⟨a :: as⟩ : Array MapEntry).isEmpty = false := by simp
              unfold Instr.next
              simp only [Sem.run_bind, hgo, hgo2, Result.andThen_ok, hall, Bool.false_eq_true, if_false, hf1, hold, hnew, hem, hsz, hcr, hcand, hset, Sem.run_pure]
            · show VRel ρ (.tuple ⟨[.bool true, e.key, e.val]⟩) (.tuple ⟨[.bool true, e'.key, e'.val]⟩)
              rw [q2.key]
              exact .tuple (.cons (.bool _) (.cons (VRel.of_flat2 q2.fkey) (.cons q2.val .nil)))
            · have ep : (⟨seen⟩ : Array Nat).push e'.born = ⟨seen ++ [e.born]⟩ := by
                apply Array.ext'; simp [q2.born]
              rw [ep]
              exact .mapIter hz k1 since _ clock
        · cases he
      · cases he
    · cases he
  · cases he


/-! A region in order, with or without a step through a map at its head. -/

theorem ended_ok {r : Ans St} {outs : List (X × List Nat × St)} (h : ended r = .ok outs) : ∃ st', r = .ok st' ∧ outs = [(.normal, [], st')] := by
  unfold ended at h
  split at h
  · rename_i st'
    injection h with h
    exact ⟨st', rfl, h.symm⟩
  · cases h

theorem joinO_ok {a b : Outs} {outs : List (X × List Nat × St)} (h : joinO a b = .ok outs) : ∃ l m, a = .ok l ∧ b = .ok m ∧ outs = l ++ m := by
  unfold joinO at h
  split at h
  · split at h
    · injection h with h; exact ⟨_, _, rfl, rfl, h.symm⟩
    · cases h
  · cases h

theorem stepAll_ok {call : CallT} {N : Nat} {all : List Oper} {r : Nat} : ∀ {ps : List (Value × RO)} {outs : List (X × List Nat × St)}, stepAll E call N all st r ps = .ok outs →
    (∀ p ∈ ps, ∃ st', stepOn E call N all st r p = .ok [(.normal, [], st')] ∧ (.normal, [], st') ∈ outs) ∧ (∀ o ∈ outs, ∃ p ∈ ps, stepOn E call N all st r p = .ok [o])
  | [], outs, h => by
    injection h with h; subst h
    exact And.intro (fun p hp => by cases hp) (fun o ho => by cases ho)
  | p :: ps, outs, h => by
    have e : ∀ ps : List (Value × RO), stepAll E call N all st r (p :: ps) = (match ps with
      | [] => stepOn E call N all st r p
      | _ => joinO (stepOn E call N all st r p) (stepAll E call N all st r ps)) := fun _ => rfl
    have hone : ∀ o2, stepOn E call N all st r p = .ok o2 → ∃ st', o2 = [(.normal, [], st')] := by
      intro o2 h2
      unfold stepOn at h2
      split at h2
      · obtain ⟨st', _, e2⟩ := ended_ok h2; exact ⟨st', e2⟩
      · cases h2
    rw [e] at h
    cases ps with
    | nil =>
      dsimp only at h
      obtain ⟨st', rfl⟩ := hone _ h
      exact ⟨fun q hq => by rw [List.mem_singleton] at hq; subst hq; exact ⟨st', h, by simp⟩, fun o ho => by rw [List.mem_singleton] at ho; subst ho; exact ⟨p, by simp, h⟩⟩
    | cons q qs =>
      dsimp only at h
      obtain ⟨l, m, h1, h2, rfl⟩ := joinO_ok h
      obtain ⟨st', rfl⟩ := hone _ h1
      obtain ⟨a, b⟩ := stepAll_ok h2
      refine ⟨fun x hx => ?_, fun o ho => ?_⟩
      · rcases List.mem_cons.1 hx with rfl | hx
        · exact ⟨st', h1, by simp⟩
        · obtain ⟨s, k1, k2⟩ := a x hx
          exact ⟨s, k1, List.mem_append_right _ k2⟩
      · rcases List.mem_append.1 ho with ho | ho
        · rw [List.mem_singleton] at ho; subst ho; exact ⟨p, by simp, h1⟩
        · obtain ⟨x, k1, k2⟩ := b o ho
          exact ⟨x, List.mem_cons_of_mem _ k1, k2⟩

end

theorem isMapNext_ok {l : List Oper} {x : Operand} (h : isMapNext l = some x) : ∃ o l', l = o :: l' ∧ o.op = .next x false ∧ o.guard = none := by
  unfold isMapNext at h
  split at h
  · rename_i o l'
    split at h
    · rename_i y h1 h2
      injection h with h; subst h
      exact ⟨o, l', rfl, h1, h2⟩
    · cases h
  · cases h

/-- What a region comes to. -/
structure RegionOK (E : Env) (N : Nat) (ops : Array Oper) (st : St) (outs : List (X × List Nat × St)) : Prop where
  some : outs ≠ []
  le : ∀ o ∈ outs, st.n ≤ o.2.2.n
  plain : ∀ o ∈ outs, o.1 = .normal ∧ o.2.1 = []
  run : N ≤ 1000000 → ∀ (nb : Nat) (ρ : Ren) (w : World) (tm : Array Value), (∀ o ∈ outs, o.2.2.n ≤ nb) → tm.size = N → Base E ρ st.n → SRel ρ st.σ tm → HRel ρ (getR st.h) w → Fresh ρ st.n nb → ∀ (bf : Frame) (kf : List Item) (cf : List Frame),
      ∃ o ∈ outs, ∃ ρ' w' tm', Goes ρ (getR st.h) st.n w ρ' (getR o.2.2.h) o.2.2.n w' ∧ SRel ρ' o.2.2.σ tm' ∧ tm'.size = N ∧
        Steps E.P (lone (fat bf tm (.inRegion ops (List.range ops.size) :: kf)) cf w) (lone (fat bf tm' kf) cf w')

theorem plain_ok {E : Env} (ok : EnvOK E) {call : CallT} (hc : CallOK E call) {N : Nat} (ops : Array Oper) {st : St} {outs : List (X × List Nat × St)} (h : ended (runOps E call N ops.toList ops.toList st) = .ok outs) : RegionOK E N ops st outs := by
  obtain ⟨st1, hr, rfl⟩ := ended_ok h
  refine ⟨by simp, fun o ho => ?_, fun o ho => ?_, fun hN nb ρ w tm hnb hz hb hs hh hf bf kf cf => ?_⟩
  · rw [List.mem_singleton] at ho; subst ho
    exact runOps_mono hr
  · rw [List.mem_singleton] at ho; subst ho
    exact ⟨rfl, rfl⟩
  · have hn := hnb _ (List.mem_singleton.2 rfl)
    obtain ⟨ρ', w', tm', g, s, z, arr⟩ := runOps_ok ok hc hN ops ops.toList 0 st st1 rfl (Nat.zero_le _) hr ρ w tm hz hb hs hh (hf.left hn) bf kf cf
    refine ⟨_, List.mem_singleton.2 rfl, ρ', w', tm', g, s, z, ?_⟩
    have := arr
    rw [Nat.sub_zero, ← List.range_eq_range'] at this
    exact this

theorem regionOn_ok {E : Env} (ok : EnvOK E) {call : CallT} (hc : CallOK E call) {N : Nat} (ops : Array Oper) {st : St} {outs : List (X × List Nat × St)} (h : regionOn E call N ops.toList st = .ok outs) : RegionOK E N ops st outs := by
  unfold regionOn at h
  split at h
  · rename_i x hx
    obtain ⟨o, l, hl, hop, hg⟩ := isMapNext_ok hx
    have ho : ops[0]? = some o := by
      have := congrArg (fun x => x[0]?) hl
      simpa using this
    have hsz : ops.size = l.length + 1 := by
      have := congrArg List.length hl
      simpa using this
    -- the rest of the region behind the step
    have rest : ∀ (N1 : N ≤ 1000000) (v : Value) (h1 : Tr RO) (st' : St), goOn N o (runOps E call N ops.toList l) st v h1 st.n = .ok st' →
        ∀ (ρ : Ren) (w w1 : World) (tm : Array Value) (v1 : Value), tm.size = N → Base E ρ st.n → SRel ρ st.σ tm → Fresh ρ st.n st'.n → Goes ρ (getR st.h) st.n w ρ (getR h1) st.n w1 → VRel ρ v v1 →
          (execOp (evalT tm) o).run E.P w = .ok (.value v1) w1 → ∀ (bf : Frame) (kf : List Item) (cf : List Frame),
          ∃ ρ' w' tm', Goes ρ (getR st.h) st.n w ρ' (getR st'.h) st'.n w' ∧ SRel ρ' st'.σ tm' ∧ tm'.size = N ∧
            Steps E.P (lone (fat bf tm (.inRegion ops (List.range ops.size) :: kf)) cf w) (lone (fat bf tm' kf) cf w') := by
      intro N1 v h1 st' hgo ρ w w1 tm v1 hz hb hs hf hg1 hv hrun bf kf cf
      obtain ⟨σ1, hp, _, hr⟩ := goOn_ok hgo
      obtain ⟨s1, s2⟩ := putT_rel N1 hz hp hs hv
      obtain ⟨ρ', w', tm', g, s, z, arr⟩ := runOps_ok ok hc N1 ops l 1 ⟨σ1, h1, st.n⟩ st' (by rw [hl]; rfl) (by omega) hr ρ w1 (put tm o.dst v1) s2 hb s1 hg1.rel hf bf kf cf
      refine ⟨ρ', w', tm', hg1.trans g, s, z, ?_⟩
      have e : List.range ops.size = 0 :: List.range' 1 (ops.size - 1) := by
        rw [List.range_eq_range', hsz, List.range'_succ]; rfl
      rw [e]
      have hwant : Region.wanted o (yielded ops tm) = true := by unfold Region.wanted; rw [hg]
      exact .head (st_value ho hwant (by rw [hop]; rfl) hrun) arr
    have hnext : ∀ (tm : Array Value) w v1 w1, (Instr.next (evalT tm x) false o.type).run E.P w = .ok v1 w1 → (execOp (evalT tm) o).run E.P w = .ok (.value v1) w1 := by
      intro tm w v1 w1 hr
      unfold execOp
      rw [hop]
      simp only [Sem.run_bind, hr, Result.andThen_ok, Sem.run_pure]
    split at h
    · rename_i r p ps hms
      obtain ⟨a1, a2⟩ := stepAll_ok h
      have way : ∀ q ∈ p :: ps, ∀ st', stepOn E call N ops.toList st r q = .ok [(.normal, [], st')] → goOn N o (runOps E call N ops.toList l) st q.1 (putR st.h r (some q.2)) st.n = .ok st' := by
        intro q hq st' hso
        unfold stepOn at hso
        rw [hl] at hso
        dsimp only at hso
        obtain ⟨st2, e1, e2⟩ := ended_ok hso
        injection e2 with e2; injection e2 with _ e2; injection e2 with _ e2
        rw [hl, e2]; exact e1
      have form : ∀ q ∈ outs, st.n ≤ q.2.2.n ∧ q.1 = .normal ∧ q.2.1 = [] := fun q hq => by
        obtain ⟨pp, hpp, hso⟩ := a2 q hq
        obtain ⟨st', hso2, _⟩ := a1 pp hpp
        rw [hso] at hso2
        injection hso2 with hso2; injection hso2 with hso2
        subst hso2
        obtain ⟨σ1, _, _, hr⟩ := goOn_ok (way pp hpp st' hso)
        have hmono := runOps_mono hr
        exact ⟨hmono, rfl, rfl⟩
      refine ⟨?_, fun q hq => (form q hq).1, fun q hq => (form q hq).2, fun hN nb ρ w tm hnb hz hb hs hh hf bf kf cf => ?_⟩
      · obtain ⟨st', _, hm⟩ := a1 p (by simp)
        intro e; rw [e] at hm; cases hm
      · rcases mapSteps_ok hb hs hh hms o.type with ⟨e, _⟩ | ⟨q, hq, v1, w1, hr, hv, hg1⟩
        · cases e
        · obtain ⟨st', hso, hm⟩ := a1 q hq
          obtain ⟨ρ', w', tm', r1, r2, r3, r4⟩ := rest hN q.1 _ st' (way q hq st' hso) ρ w w1 tm v1 hz hb hs (hf.left (hnb _ hm)) hg1 hv (hnext tm w v1 w1 hr) bf kf cf
          exact ⟨_, hm, ρ', w', tm', r1, r2, r3, r4⟩
    · rename_i r hms
      rw [hl] at h
      dsimp only at h
      obtain ⟨st', e1, rfl⟩ := ended_ok h
      rw [← hl] at e1
      refine ⟨by simp, fun q hq => ?_, fun q hq => ?_, fun hN nb ρ w tm hnb hz hb hs hh hf bf kf cf => ?_⟩
      · rw [List.mem_singleton] at hq; subst hq
        obtain ⟨σ1, _, _, hr⟩ := goOn_ok e1
        have hmono := runOps_mono hr
        exact hmono
      · rw [List.mem_singleton] at hq; subst hq
        exact ⟨rfl, rfl⟩
      · rcases mapSteps_ok hb hs hh hms o.type with ⟨_, hr⟩ | ⟨q, hq, _⟩
        · have hn := hnb _ (List.mem_singleton.2 rfl)
          obtain ⟨ρ', w', tm', r1, r2, r3, r4⟩ := rest hN over st.h st' e1 ρ w w tm over hz hb hs (hf.left hn) (Goes.refl hh) (.tuple (.cons (.bool _) .nil)) (hnext tm w _ _ hr) bf kf cf
          exact ⟨_, List.mem_singleton.2 rfl, ρ', w', tm', r1, r2, r3, r4⟩
        · cases hq
    · exact plain_ok ok hc ops h
  · exact plain_ok ok hc ops h

end Go.Ev
end

section
/- A ground evaluator for closed calls, part Re: loops over functions; code; the law. -/
namespace Go.Ev
open Go.RowKit

section
variable {E : Env}

/-- The call of the function that is ranged over, and what is behind it. -/
theorem runLoop_ok (ok : EnvOK E) {call : CallT} (hc : CallOK E call) {N : Nat} {f : Operand} {ps : Array Tmp} {a c : Code} {σ : Tr Value} {h : Tr RO} {n d : Nat} {ds : List Nat} {outs : List (X × List Nat × St)}
    (he : runLoop E call N f ps.toList a c σ h n d ds = .ok outs) :
    ∃ o, outs = [o] ∧ n ≤ o.2.2.n ∧ o.2.1 = ds ∧ ∀ (fi : FuncId) (ρ : Ren) (w : World) (tm : Array Value) (ld : Loc), N ≤ 1000000 → tm.size = N → Base E ρ n → SRel ρ σ tm → HRel ρ (getR h) w → Fresh ρ n o.2.2.n → ρ d = some ld →
        ∀ (b : Frame) (mk : List Deferred) (k : List Item) cs (w0 : World), b.fn = fi →
          (Instr.enterLoop fi tm ps a c b.roundOf).run E.P w0 = .ok (w.heap.size, mk) { w with heap := w.heap.push (.loop (newLoop fi tm ps a c ld.g)) } →
      ∃ ρ' w' , Goes ρ (getR h) n w ρ' (getR o.2.2.h) o.2.2.n w' ∧ o.2.2.σ = σ ∧
          Arr E.P o.1 (bd b mk) tm k cs (lone (fat b tm (.code (.rangeFunc f ps a c) :: k)) cs w0) w' := by
  unfold runLoop at he
  split at he
  · rename_i g first captured hf0
    split at he
    · rename_i fn hfn
      split at he
      · rename_i body hbody
        rw [cond_eq_ite, blt_iff] at he
        split at he
        · rename_i hbig
          rw [decide_eq_true_eq] at hbig
          split at he
          · rename_i v h1 m hcall
            obtain ⟨c1, _, c3⟩ := hc _ _ _ _ _ _ _ hcall
            unfold endLoop at he
            split at he
            · rename_i L hL
              rw [cond_eq_ite] at he
              split at he
              · cases he
              · rename_i hbusy
                -- what is common to the three ends
                have key : ∀ (x : X), outs = [(x, ds, ⟨σ, putR h1 n (some (.loop { L with state := .exhausted })), m⟩)] → L.pending = jumpOf x →
                    ∃ o, outs = [o] ∧ n ≤ o.2.2.n ∧ o.2.1 = ds ∧ ∀ (fi : FuncId) (ρ : Ren) (w : World) (tm : Array Value) (ld : Loc), N ≤ 1000000 → tm.size = N → Base E ρ n → SRel ρ σ tm → HRel ρ (getR h) w → Fresh ρ n o.2.2.n → ρ d = some ld →
                        ∀ (b : Frame) (mk : List Deferred) (k : List Item) cs (w0 : World), b.fn = fi →
                          (Instr.enterLoop fi tm ps a c b.roundOf).run E.P w0 = .ok (w.heap.size, mk) { w with heap := w.heap.push (.loop (newLoop fi tm ps a c ld.g)) } →
                      ∃ ρ' w' , Goes ρ (getR h) n w ρ' (getR o.2.2.h) o.2.2.n w' ∧ o.2.2.σ = σ ∧
                          Arr E.P o.1 (bd b mk) tm k cs (lone (fat b tm (.code (.rangeFunc f ps a c) :: k)) cs w0) w' := by
                  intro x hx hpend
                  refine ⟨_, hx, by have : n + 1 ≤ m := c1; show n ≤ m; omega, rfl, fun fi ρ w tm ld hN hz hb hs hh hfr hd b mk k cs w0 hbf hent => ?_⟩
                  have hnm : n + 1 ≤ m := c1
                  have hfr' : Fresh ρ n m := hfr
                  let l : Loc := ⟨w.heap.size, 0, 0, ⟨0, none, false⟩⟩
                  have hn : ρ n = none := hfr' n (Nat.le_refl _) (by omega)
                  have gr0 := grows_more (l := l) hn
                  have hg0 := goes_fresh (w' := { w with heap := w.heap.push (.loop (newLoop fi tm ps a c ld.g)) }) (h' := getR (putR h n (some (.loop ⟨.ready, none, σ, N, ps.toList, a, c, d⟩)))) hh hn l (.loop ⟨.ready, none, σ, N, ps.toList, a, c, d⟩) (.loop (newLoop fi tm ps a c ld.g))
                    (fun q => getR_putR h n _ hbig q) rfl rfl rfl rfl rfl (.loop ⟨rfl, rfl, hz, hs.mono gr0, rfl, rfl, rfl, ⟨ld, gr0 _ _ hd, rfl⟩⟩)
                  have hr := opnd_rel hb hs hf0
                  generalize hv : evalT tm f = q at hr
                  cases hr with
                  | func hp h1' h2' =>
                  rename_i fs' cs'
                  have hargs : VRels (more ρ n l) (first ++ (.func (.yield n) #[] #[] :: captured)) (fs' ++ (.func (.yield l.g) #[] #[] :: cs')) :=
                    (h1'.mono gr0).append (.cons (.yield (more_same ρ n l)) (h2'.mono gr0))
                  obtain ⟨ρ2, w2, v', g2, hv2, hst⟩ := c3 (more ρ n l) _ (fs' ++ (.func (.yield l.g) #[] #[] :: cs')) _ _ (hb.goes hg0) hg0.rel hargs ⟨rfl, rfl⟩ (hg0.fresh hfr') (fat (bd b mk) tm (.inRangeFunc l.g :: k)) cs
                  have gr2 := g2.grows (hg0.fresh hfr')
                  obtain ⟨l2, r2, k1, k2, k3⟩ := loop_at g2.rel hL
                  have hl2 : l2 = l := by
                    have := gr2 _ _ (more_same ρ n l)
                    rw [k1] at this; injection this
                  subst hl2
                  have hne : getR h1 n ≠ none := by rw [loopOf_some hL]; simp
                  have hg3 := goes_update (n := m) g2.rel hne k1 (.loop { L with state := .exhausted }) _ (fun q => getR_putR h1 n _ hbig q) (changed_obj (.loop { r2 with state := .exhausted }) (lt_of_heap k2)) (.loop ⟨rfl, k3.pending, k3.size, k3.tmps, k3.params, k3.assign, k3.body, k3.defers⟩)
                  refine ⟨ρ2, _, hg0.trans (g2.trans hg3), rfl, ?_⟩
                  have hnb : r2.state ≠ .busy := by
                    rw [k3.state]
                    intro e
                    rw [e] at hbusy
                    exact hbusy rfl
                  obtain ⟨f1, f2⟩ := ok.fn _ _ hfn
                  have hcallrun : (do let d ← resolve (evalT tm) { callee := .value f, args := #[.const (.func (.yield l.g) #[] #[])], argTypes := #[] } 0; invoke d.target d.args : Sem Next).run E.P { w with heap := w.heap.push (.loop (newLoop fi tm ps a c ld.g)) } =
                      .ok (.enter g ⟨fs' ++ (.func (.yield l.g) #[] #[] :: cs')⟩) { w with heap := w.heap.push (.loop (newLoop fi tm ps a c ld.g)) } := by
                    have e1 : (resolve (evalT tm) { callee := .value f, args := #[.const (.func (.yield l.g) #[] #[])], argTypes := #[] } 0 : Sem Deferred) = pure { target := .fn (.func g) ⟨cs'⟩, args := ⟨fs'⟩ ++ #[.func (.yield l.g) #[] #[]] } := by
                      simp [resolve, hv, Deferred.ofValue]
                      rfl
                    have e2 : ((⟨fs'⟩ : Array Value) ++ #[.func (.yield l.g) #[] #[]] ++ ⟨cs'⟩) = ⟨fs' ++ (.func (.yield l.g) #[] #[] :: cs')⟩ := by
                      apply Array.ext'
                      simp
                    simp only [e1, Sem.run_bind, Sem.run_pure, Result.andThen_ok, invoke, e2, callFunc, program, Sem.run, f1, f2, hbody]
                    simp
                  have hent' : (Instr.enterLoop b.fn tm ps a c b.roundOf).run E.P w0 = .ok (l.g, mk) { w with heap := w.heap.push (.loop (newLoop fi tm ps a c ld.g)) } := by
                    rw [hbf]; exact hent
                  have s1 := st_rangeFunc (k := k) (cs := cs) hent' hcallrun
                  have s2 := hst
                  rw [finish_rangeFunc] at s2
                  have s3 := st_endRangeFunc (P := E.P) (b := bd b mk) (tm := tm) (k := k) (cs := cs) k2 hnb
                  have hpe : (r2.pending.map Item.code).toList = ((jumpOf x).map Item.code).toList := by rw [k3.pending, hpend]
                  rw [hpe] at s3
                  have all := Steps.head s1 (s2.trans (.one s3))
                  cases x with
                  | normal => exact all
                  | exit id => exact ⟨k, rfl, all⟩
                  | ret => exact ⟨k, all⟩
                split at he
                · rename_i hp
                  injection he with he
                  exact key .normal he.symm hp
                · rename_i id hp
                  injection he with he
                  exact key (.exit id) he.symm hp
                · rename_i hp
                  injection he with he
                  exact key .ret he.symm hp
                · cases he
            · cases he
          · cases he
        · cases he
      · cases he
    · cases he
  · cases he

theorem rangeOn_ok (ok : EnvOK E) {call : CallT} (hc : CallOK E call) {N : Nat} {rd : Option Nat} {f : Operand} {ps : Array Tmp} {a c : Code} {st : St} {outs : List (X × List Nat × St)} (he : rangeOn E call N rd f ps.toList a c st = .ok outs) :
    ∃ o, outs = [o] ∧ st.n ≤ o.2.2.n ∧ ∀ (fi : FuncId) (ro : Option Nat) (ρ : Ren) (w : World) (tm : Array Value), N ≤ 1000000 → tm.size = N → Base E ρ st.n → SRel ρ st.σ tm → HRel ρ (getR st.h) w → InRound ρ rd ro → Fresh ρ st.n o.2.2.n → ∀ (b : Frame) (k : List Item) (cs : List Frame), b.fn = fi → b.roundOf = ro →
      ∃ ρ' w' ds, Goes ρ (getR st.h) st.n w ρ' (getR o.2.2.h) o.2.2.n w' ∧ SRel ρ' o.2.2.σ tm ∧ Marks ρ' o.2.1 ds ∧
        Arr E.P o.1 (bd b ds) tm k cs (lone (fat b tm (.code (.rangeFunc f ps a c) :: k)) cs w) w' := by
  unfold rangeOn at he
  split at he
  · rw [cond_eq_ite, blt_iff] at he
    split at he
    · rename_i hbig
      rw [decide_eq_true_eq] at hbig
      obtain ⟨o, rfl, hle, hds, hrun⟩ := runLoop_ok ok hc he
      have hle' : st.n + 1 ≤ o.2.2.n := hle
      refine ⟨o, rfl, by omega, fun fi ro ρ w tm hN hz hb hs hh hro hf b k cs hbf hbr => ?_⟩
      have hro' : ro = none := by cases ro <;> first | rfl | cases hro
      subst hro'
      let ld : Loc := ⟨w.heap.size, 0, 0, ⟨0, none, false⟩⟩
      have hn : ρ st.n = none := hf st.n (Nat.le_refl _) (by omega)
      have gr0 := grows_more (l := ld) hn
      have hg0 := goes_fresh (w' := { w with heap := w.heap.push (.deferred (some [])) }) (h' := getR (putR st.h st.n (some .deferred))) hh hn ld .deferred (.deferred (some [])) (fun q => getR_putR st.h st.n _ hbig q) rfl rfl rfl rfl rfl .deferred
      obtain ⟨ρ', w', g, hσ, hst⟩ := hrun fi (more ρ st.n ld) _ tm ld hN hz (hb.goes hg0) (hs.mono gr0) hg0.rel (hg0.fresh hf) (more_same ρ st.n ld) b [markOf w.heap.size] k cs w hbf (by
        rw [hbr]
        have e := run_enterLoop_new (P := E.P) (w := w) (tm := tm) (fn := fi) (ps := ps) (a := a) (c := c)
        rw [e]
        simp [ld])
      have gr1 := g.grows (hg0.fresh hf)
      refine ⟨ρ', w', [markOf w.heap.size], hg0.trans g, ?_, ?_, hst⟩
      · rw [hσ]; exact (hs.mono gr0).mono gr1
      · rw [hds]
        exact .cons (l := ld) (gr1 _ _ (more_same ρ st.n ld)) .nil
    · cases he
  · rename_i j
    split at he
    · rename_i L hL
      obtain ⟨o, rfl, hle, hds, hrun⟩ := runLoop_ok ok hc he
      refine ⟨o, rfl, hle, fun fi ro ρ w tm hN hz hb hs hh hro hf b k cs hbf hbr => ?_⟩
      obtain ⟨l, r, h1, h2, h3⟩ := loop_at hh hL
      obtain ⟨ld, d1, d2⟩ := h3.defers
      obtain ⟨g0, hg0⟩ : ∃ g0, ro = some g0 := by
        cases ro with
        | none => cases hro
        | some g => exact ⟨g, rfl⟩
      subst hg0
      obtain ⟨l', q1, q2⟩ := hro
      rw [h1] at q1; injection q1 with q1; subst q1
      obtain ⟨ρ', w', g, hσ, hst⟩ := hrun fi ρ w tm ld hN hz hb hs hh hf d1 b [] k cs w hbf (by
        rw [hbr, ← q2]
        have e := run_enterLoop_in (P := E.P) (w := w) (tm := tm) (fn := fi) (ps := ps) (a := a) (c := c) h2
        rw [e, d2])
      refine ⟨ρ', w', [], g, ?_, ?_, hst⟩
      · rw [hσ]; exact hs.mono (g.grows hf)
      · rw [hds]; exact .nil
    · cases he

theorem nextL_cons (next : St → Outs) (o : X × List Nat × St) (r : List (X × List Nat × St)) : nextL next (o :: r) = (match o with
    | (.normal, ds, st) => match r with
      | [] => markedO ds (next st)
      | _ => joinO (markedO ds (next st)) (nextL next r)
    | o => joinO (.ok [o]) (nextL next r)) := rfl

theorem marked_mem {ds : List Nat} : ∀ {l : List (X × List Nat × St)} {o : X × List Nat × St}, o ∈ marked ds l ↔ ∃ q ∈ l, o = (q.1, q.2.1 ++ ds, q.2.2)
  | [], o => by
    have : marked ds [] = [] := rfl
    rw [this]; simp
  | x :: l, o => by
    have e : marked ds (x :: l) = (x.1, x.2.1 ++ ds, x.2.2) :: marked ds l := rfl
    rw [e, List.mem_cons, marked_mem]
    simp

theorem markedO_ok {ds : List Nat} {r : Outs} {outs : List (X × List Nat × St)} (h : markedO ds r = .ok outs) : ∃ l, r = .ok l ∧ ∀ o, o ∈ outs ↔ ∃ q ∈ l, o = (q.1, q.2.1 ++ ds, q.2.2) := by
  unfold markedO at h
  split at h
  · exact ⟨outs, h, fun o => by simp⟩
  · split at h
    · rename_i l
      injection h with h; subst h
      exact ⟨l, rfl, fun o => marked_mem⟩
    · cases h

/-- What comes of ways that go on: each way that goes on goes on in all its ways, the others stay. -/
theorem nextL_ok {next : St → Outs} : ∀ {l outs : List (X × List Nat × St)}, nextL next l = .ok outs →
    (∀ o ∈ l, (∃ ds st, o = (.normal, ds, st) ∧ ∃ l2, next st = .ok l2 ∧ ∀ q ∈ l2, (q.1, q.2.1 ++ ds, q.2.2) ∈ outs) ∨ (o.1 ≠ .normal ∧ o ∈ outs)) ∧
    (∀ o ∈ outs, (∃ ds st l2 q, (X.normal, ds, st) ∈ l ∧ next st = .ok l2 ∧ q ∈ l2 ∧ o = (q.1, q.2.1 ++ ds, q.2.2)) ∨ o ∈ l)
  | [], outs, h => by
    injection h with h; subst h
    exact And.intro (fun o ho => by cases ho) (fun o ho => by cases ho)
  | (x, ds, st) :: r, outs, h => by
    rw [nextL_cons] at h
    have norm : ∀ o2, markedO ds (next st) = .ok o2 → x = .normal → ∃ l2, next st = .ok l2 ∧ (∀ q ∈ l2, (q.1, q.2.1 ++ ds, q.2.2) ∈ o2) ∧ ∀ o ∈ o2, ∃ q ∈ l2, o = (q.1, q.2.1 ++ ds, q.2.2) := by
      intro o2 h2 _
      obtain ⟨l2, a, b⟩ := markedO_ok h2
      exact ⟨l2, a, fun q hq => (b _).2 ⟨q, hq, rfl⟩, fun o ho => (b o).1 ho⟩
    cases x with
    | normal =>
      dsimp only at h
      cases r with
      | nil =>
        dsimp only at h
        obtain ⟨l2, a, b, c⟩ := norm outs h rfl
        refine ⟨fun o ho => ?_, fun o ho => ?_⟩
        · rw [List.mem_singleton] at ho; subst ho
          exact .inl ⟨ds, st, rfl, l2, a, b⟩
        · obtain ⟨q, hq, rfl⟩ := c o ho
          exact .inl ⟨ds, st, l2, q, by simp, a, hq, rfl⟩
      | cons y ys =>
        dsimp only at h
        obtain ⟨o1, o2, h1, h2, rfl⟩ := joinO_ok h
        obtain ⟨l2, a, b, c⟩ := norm o1 h1 rfl
        obtain ⟨p, q⟩ := nextL_ok h2
        refine ⟨fun o ho => ?_, fun o ho => ?_⟩
        · rcases List.mem_cons.1 ho with rfl | ho
          · exact .inl ⟨ds, st, rfl, l2, a, fun q hq => List.mem_append_left _ (b q hq)⟩
          · rcases p o ho with ⟨ds', st', e, l3, u, v⟩ | ⟨u, v⟩
            · exact .inl ⟨ds', st', e, l3, u, fun q hq => List.mem_append_right _ (v q hq)⟩
            · exact .inr ⟨u, List.mem_append_right _ v⟩
        · rcases List.mem_append.1 ho with ho | ho
          · obtain ⟨q, hq, rfl⟩ := c o ho
            exact .inl ⟨ds, st, l2, q, by simp, a, hq, rfl⟩
          · rcases q o ho with ⟨ds', st', l3, q', u, v, z, t⟩ | u
            · exact .inl ⟨ds', st', l3, q', List.mem_cons_of_mem _ u, v, z, t⟩
            · exact .inr (List.mem_cons_of_mem _ u)
    | exit id =>
      dsimp only at h
      obtain ⟨o1, o2, h1, h2, rfl⟩ := joinO_ok h
      injection h1 with h1; subst h1
      obtain ⟨p, q⟩ := nextL_ok h2
      refine ⟨fun o ho => ?_, fun o ho => ?_⟩
      · rcases List.mem_cons.1 ho with rfl | ho
        · exact .inr ⟨(by intro e; cases e), by simp⟩
        · rcases p o ho with ⟨ds', st', e, l3, u, v⟩ | ⟨u, v⟩
          · exact .inl ⟨ds', st', e, l3, u, fun q hq => List.mem_append_right _ (v q hq)⟩
          · exact .inr ⟨u, List.mem_append_right _ v⟩
      · rcases List.mem_append.1 ho with ho | ho
        · rw [List.mem_singleton] at ho; subst ho; exact .inr (by simp)
        · rcases q o ho with ⟨ds', st', l3, q', u, v, z, t⟩ | u
          · exact .inl ⟨ds', st', l3, q', List.mem_cons_of_mem _ u, v, z, t⟩
          · exact .inr (List.mem_cons_of_mem _ u)
    | ret =>
      dsimp only at h
      obtain ⟨o1, o2, h1, h2, rfl⟩ := joinO_ok h
      injection h1 with h1; subst h1
      obtain ⟨p, q⟩ := nextL_ok h2
      refine ⟨fun o ho => ?_, fun o ho => ?_⟩
      · rcases List.mem_cons.1 ho with rfl | ho
        · exact .inr ⟨(by intro e; cases e), by simp⟩
        · rcases p o ho with ⟨ds', st', e, l3, u, v⟩ | ⟨u, v⟩
          · exact .inl ⟨ds', st', e, l3, u, fun q hq => List.mem_append_right _ (v q hq)⟩
          · exact .inr ⟨u, List.mem_append_right _ v⟩
      · rcases List.mem_append.1 ho with ho | ho
        · rw [List.mem_singleton] at ho; subst ho; exact .inr (by simp)
        · rcases q o ho with ⟨ds', st', l3, q', u, v, z, t⟩ | u
          · exact .inl ⟨ds', st', l3, q', List.mem_cons_of_mem _ u, v, z, t⟩
          · exact .inr (List.mem_cons_of_mem _ u)

end
end Go.Ev
end

