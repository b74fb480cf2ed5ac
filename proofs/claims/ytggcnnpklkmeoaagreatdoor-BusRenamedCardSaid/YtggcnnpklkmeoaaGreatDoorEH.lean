/- A ground evaluator for closed calls, part M: copy, slice expressions, conversions. -/
import Derived.Test.YtggcnnpklkmeoaaGreatDoorEG
import Derived.Laws.BytesString
import Derived.Laws.BytesArg
section
namespace Go.Ev
open Go.RowKit

section
variable {E : Env} {ρ : Ren} {st : St} {tm : Array Value} {w : World} {v : Value} {h' : Tr RO} {n' : Nat}

theorem copy_does (ok : EnvOK E) (hh : HRel ρ (getR st.h) w) {argTypes : Array TypeId} {type : TypeId} {args args' : List Value} (ha : VRels ρ args args') (he : opCopy E st argTypes.toList args = some (.val v h' n')) :
    Does E.P ρ st.h st.n w (do pure (.value (← Builtin.copy_ argTypes type ⟨args'⟩))) v h' n' := by
  unfold opCopy at he
  split at he
  · rename_i t ts i o k b x ht
    have hat : argTypes[0]? = some t := by rw [← Array.getElem?_toList, ht]; rfl
    cases ha with
    | cons hs hr =>
    cases hr with
    | cons hx hr2 =>
    cases hr2
    rename_i s' x'
    split at he
    · rename_i d hd
      have hD := ok.ti hd
      have hu := hD.underlying (w := w)
      split at he
      · rename_i e hde
        rw [hde] at hu
        split at he
        · rename_i j hj
          have hT := ok.ti hj
          split at he
          · rename_i src es c hsrc hcell
            obtain ⟨l, c', T, fr, h1, hes, h3, h4, h5, h6, h7, h8, h9, h10⟩ := row_more hh hcell
            cases hs with
            | slice hi k1 k2 k3 k4 =>
            rename_i o' cap l2
            rw [h1] at hi; injection hi with hi; subst hi
            obtain ⟨r1, r2, _, r4⟩ := src_rel (E := E) hh hsrc hx
            have hmin : Nat.min (lenOf x) k ≤ lenOf x := Nat.min_le_left _ _
            obtain ⟨rl, rf⟩ := r1 (Nat.min (lenOf x) k)
            obtain ⟨new', rn, rv⟩ := rf hmin
            rw [cond_eq_ite, beq_iff] at he
            split at he
            · rename_i h0
              rw [decide_eq_true_eq] at h0
              subst h0
              injection he with he; injection he with e1 e2 e3
              subst e1; subst e2; subst e3
              have hn0 : new' = [] := by
                have := rv.length
                apply List.length_eq_zero_iff.1
                rw [← this]; simp
              subst hn0
              refine does_pure hh (v' := .int .i64 0) ?_ (.int _ _)
              have rn' : (Builtin.firstCells j.size 0 x').run E.P w = .ok ⟨[]⟩ w := by have := rn; simpa using this
              have e1 : (⟨[.slice (some ⟨l.g, o', none⟩) 0 cap, x']⟩ : Array Value)[0]? = some (.slice (some ⟨l.g, o', none⟩) 0 cap) := rfl
              have e2 : (⟨[.slice (some ⟨l.g, o', none⟩) 0 cap, x']⟩ : Array Value)[1]? = some x' := rfl
              unfold Builtin.copy_
              simp only [hat, e1, e2, Sem.run_bind, hu, Result.andThen_ok, rl, hT.sizeOf]
              simp [rn', storeCells, goInt]
            · rename_i hk0
              rw [decide_eq_true_eq] at hk0
              rw [cond_eq_ite, blt_iff] at he
              split at he
              · rename_i hbig
                rw [decide_eq_true_eq] at hbig
                split at he
                · rename_i c2 hlay
                  injection he with he; injection he with e1 e2 e3
                  subst e1; subst e2; subst e3
                  have ho : o' = l.sh + o := by rcases k3 with k3 | k3; · exact absurd k3 hk0
                                                · exact k3
                  subst ho
                  obtain ⟨q1, q2, q3⟩ := setTake h8 (by omega) hlay rv
                  have o2 : ∀ u ∈ new', one u = true := ones_mem (by rw [rv.ones]; exact ones_take _ r4)
                  obtain ⟨w', hrun, hch⟩ := run_storeCells (P := E.P) l.g (l.sh + o) T fr new' 0 c' w h3 (by simpa using q3) (fun q _ h => h7 q (by omega)) o2
                  simp only [Nat.add_zero] at hch
                  have ones2 : ones c2 = true := by
                    obtain ⟨z1, z2⟩ := lay_eq _ _ _ _ hlay
                    rw [z1]; exact ones_append (ones_append (ones_take _ h6) (ones_take _ r4)) (ones_drop _ h6)
                  refine ⟨.int .i64 (.ofNat (Nat.min (lenOf x) k)), w', ρ, .inl ?_, .int _ _, ?_⟩
                  · have e1 : (⟨[.slice (some ⟨l.g, l.sh + o, none⟩) k cap, x']⟩ : Array Value)[0]? = some (.slice (some ⟨l.g, l.sh + o, none⟩) k cap) := rfl
                    have e2 : (⟨[.slice (some ⟨l.g, l.sh + o, none⟩) k cap, x']⟩ : Array Value)[1]? = some x' := rfl
                    unfold Builtin.copy_
                    simp only [hat, e1, e2, Sem.run_bind, hu, Result.andThen_ok, rl, hT.sizeOf, rn, hrun, Sem.run_pure]
                    rfl
                  · refine goes_update hh (i := i) (l := l) (by rw [cellsOf_some hcell]; simp) h1 (.cells es c2) _ (fun q => getR_putR st.h i _ hbig q) hch ?_
                    rw [← hes]
                    refine ORel.cells ?_ (by omega) ones2 h7 q1 h9 (fun h => ⟨(h10 h).1, by rw [(h10 h).2, q2]⟩)
                    rw [List.length_append, List.length_append, List.length_take, List.length_drop, Nat.min_eq_left (by omega)]; omega
                · cases he
              · cases he
          · cases he
        · cases he
      · cases he
    · cases he
  · cases he

theorem bound_rel (hb : Base E ρ n') (hs : SRel ρ st.σ tm) {x : Option Operand} {d most y r : Nat} {_code : BoundsCode} (h : boundIn E st.σ x d most = some r) (_hy : most ≤ y) :
    (x = none → r = d) ∧ ∀ o, x = some o → r ≤ most ∧ ∃ k, evalT tm o = .int k (.ofNat r) ∧ ∀ y, r ≤ y → ∀ code w, (Instr.sliceBound (evalT tm o) y code).run E.P w = .ok r w := by
  unfold boundIn at h
  cases x with
  | none => injection h with h; exact And.intro (fun _ => h.symm) (by intro o ho; cases ho)
  | some o =>
    refine And.intro (by intro ho; cases ho) (fun o' ho => ?_)
    injection ho with ho; subst ho
    dsimp only at h
    split at h
    · rename_i kd k hk
      rw [cond_eq_ite, ble_iff] at h
      split at h
      · rename_i hle
        rw [decide_eq_true_eq] at hle
        injection h with h; subst h
        have e := VRel.eq_of_flat rfl (opnd_rel hb hs hk)
        refine ⟨hle, kd, e, fun y hy code w => ?_⟩
        rw [e]
        simp only [Instr.sliceBound, asIntOf, Sem.run_bind, Sem.run_pure, Result.andThen_ok]
        rw [if_pos ⟨Int.natCast_nonneg _, by simpa using hy⟩]
        rfl
      · cases h
    · cases h

theorem bounds_run (hb : Base E ρ n') (hs : SRel ρ st.σ tm) {lo hi : Option Operand} {n h l : Nat} (h1 : boundIn E st.σ hi n n = some h) (h2 : boundIn E st.σ lo 0 h = some l) (isSlice : Bool) (cap : Nat) (hc : n ≤ cap) (w : World) :
    (Instr.sliceBounds isSlice n cap (lo.map (evalT tm)) (hi.map (evalT tm)) none).run E.P w = .ok (l, h, cap) w ∧ l ≤ h ∧ h ≤ n := by
  have a := bound_rel (y := n) (_code := .index) hb hs h1 (Nat.le_refl _)
  have b := bound_rel (y := h) (_code := .index) hb hs h2 (Nat.le_refl _)
  have hn : h ≤ n := by
    cases hi with
    | none => rw [a.1 rfl]; exact Nat.le_refl _
    | some o => exact (a.2 o rfl).1
  have hl : l ≤ h := by
    cases lo with
    | none => rw [b.1 rfl]; exact Nat.zero_le _
    | some o => exact (b.2 o rfl).1
  refine ⟨?_, hl, hn⟩
  unfold Instr.sliceBounds
  cases hi with
  | none =>
    have := a.1 rfl
    subst this
    cases lo with
    | none => have := b.1 rfl; subst this; simp
    | some o => obtain ⟨_, k, _, hr⟩ := b.2 o rfl; simp [hr _ hl]
  | some q =>
    obtain ⟨_, k, _, hq⟩ := a.2 q rfl
    cases lo with
    | none => have := b.1 rfl; subst this; simp [hq _ (Nat.le_trans hn hc)]
    | some o => obtain ⟨_, k, _, hr⟩ := b.2 o rfl; simp [hr _ hl, hq _ (Nat.le_trans hn hc)]

theorem sliceCut_parts {z i o n : Nat} {lo hi : Option Operand} (he : sliceCut E st z i o n lo hi = some (.val v h' n')) :
    ∃ h l, boundIn E st.σ hi n n = some h ∧ boundIn E st.σ lo 0 h = some l ∧ v = .slice (some ⟨i, o + l * z, none⟩) (h - l) (h - l) ∧ h' = st.h ∧ n' = st.n := by
  unfold sliceCut at he
  split at he
  · rename_i h hh
    split at he
    · rename_i l hl
      injection he with he; injection he with e1 e2 e3
      exact ⟨h, l, hh, hl, e1.symm, e2.symm, e3.symm⟩
    · cases he
  · cases he

theorem sliceCut3_parts {z i o n : Nat} {lo : Option Operand} {hi mx : Operand} (he : sliceCut3 E st z i o n lo hi mx = some (.val v h' n')) :
    ∃ m h l r, boundIn E st.σ (some mx) n n = some m ∧ boundIn E st.σ (some hi) m m = some h ∧ boundIn E st.σ lo 0 h = some l ∧ v = .slice (some ⟨i, o + l * z, none⟩) (h - l) r ∧ (r = h - l ∨ m = h) ∧ h' = st.h ∧ n' = st.n := by
  unfold sliceCut3 at he
  split at he
  · rename_i m hm
    split at he
    · rename_i h hh
      split at he
      · rename_i l hl
        rw [cond_eq_ite, beq_iff] at he
        split at he
        · rename_i hmh
          rw [decide_eq_true_eq] at hmh
          injection he with he; injection he with e1 e2 e3
          exact ⟨m, h, l, _, hm, hh, hl, e1.symm, .inr hmh, e2.symm, e3.symm⟩
        · injection he with he; injection he with e1 e2 e3
          exact ⟨m, h, l, _, hm, hh, hl, e1.symm, .inl rfl, e2.symm, e3.symm⟩
      · cases he
    · cases he
  · cases he

theorem bounds_run3 (hb : Base E ρ n') (hs : SRel ρ st.σ tm) {lo : Option Operand} {hi mx : Operand} {n m h l : Nat} (h0 : boundIn E st.σ (some mx) n n = some m) (h1 : boundIn E st.σ (some hi) m m = some h) (h2 : boundIn E st.σ lo 0 h = some l) (cap : Nat) (hc : n ≤ cap) (w : World) :
    (Instr.sliceBounds true n cap (lo.map (evalT tm)) (some (evalT tm hi)) (some (evalT tm mx))).run E.P w = .ok (l, h, m) w ∧ l ≤ h ∧ h ≤ m ∧ m ≤ n := by
  have c := bound_rel (y := n) (_code := .index) hb hs h0 (Nat.le_refl _)
  have a := bound_rel (y := m) (_code := .index) hb hs h1 (Nat.le_refl _)
  have b := bound_rel (y := h) (_code := .index) hb hs h2 (Nat.le_refl _)
  obtain ⟨hm, km, _, hq0⟩ := c.2 mx rfl
  obtain ⟨hn, kh, _, hq1⟩ := a.2 hi rfl
  have hl : l ≤ h := by
    cases lo with
    | none => rw [b.1 rfl]; exact Nat.zero_le _
    | some o => exact (b.2 o rfl).1
  refine ⟨?_, hl, hn, hm⟩
  unfold Instr.sliceBounds
  cases lo with
  | none => have := b.1 rfl; subst this; simp [hq0 _ (Nat.le_trans hm hc), hq1 _ hn]
  | some o => obtain ⟨_, k, _, hr⟩ := b.2 o rfl; simp [hr _ hl, hq0 _ (Nat.le_trans hm hc), hq1 _ hn]

theorem valOf_eq (hb : Base E ρ n') (hs : SRel ρ st.σ tm) : ∀ {l : List Operand} {vs : List Value}, opnds E st.σ l = some vs → flats vs = true → ∀ x ∈ l, valOf E st.σ x = evalT tm x
  | [], vs, h, hf, x, hx => by cases hx
  | y :: l, vs, h, hf, x, hx => by
    have h' : cons2 (opnd E st.σ y) (opnds E st.σ l) = some vs := h
    cases hy : opnd E st.σ y with
    | none => rw [hy] at h'; cases h'
    | some u =>
      rw [hy] at h'
      obtain ⟨r, hr, rfl⟩ := consO_some h'
      simp only [flats, Bool.and_eq_true] at hf
      rcases List.mem_cons.1 hx with rfl | hx
      · unfold valOf; rw [hy]; exact (VRel.eq_of_flat hf.1 (opnd_rel hb hs hy)).symm
      · exact valOf_eq hb hs hr hf.2 x hx

theorem sliceArr_does (ok : EnvOK E) (hb : Base E ρ st.n) (hs : SRel ρ st.σ tm) (hh : HRel ρ (getR st.h) w) {e n i o : Nat} {lo hi : Option Operand} {l : Loc} (hi2 : ρ i = some l) (he : sliceArr E st e n i o lo hi = some (.val v h' n')) :
    h' = st.h ∧ n' = st.n ∧ ∃ a b z, (sizeOf e).run E.P w = .ok z w ∧ (Instr.sliceBounds false n n (lo.map (evalT tm)) (hi.map (evalT tm)) none).run E.P w = .ok (a, b, n) w ∧
      VRel ρ v (.slice (some (if n = a then ⟨l.g, l.sh + o, none⟩ else ⟨l.g, l.sh + o + a * z, none⟩)) (b - a) (n - a)) := by
  unfold sliceArr at he
  split at he
  · rename_i j es c hj hc
    have hT := ok.ti hj
    rw [cond_eq_ite] at he
    split at he
    · rename_i hcond
      rw [Bool.and_eq_true, beq_iff, ble_iff, decide_eq_true_eq, decide_eq_true_eq, lenR_eq] at hcond
      obtain ⟨z1, z2⟩ := hcond
      have z2' : o + n * j.size ≤ c.length := z2
      obtain ⟨b, a, q1, q2, rfl, rfl, rfl⟩ := sliceCut_parts he
      obtain ⟨r1, r2, r3⟩ := bounds_run hb hs q1 q2 false n (Nat.le_refl _) w
      obtain ⟨l', c', T, fr, h1, hes, h3, h4, h5, h6, h7, h8⟩ := row_read hh hc
      rw [hi2] at h1; injection h1 with h1; subst h1
      refine ⟨rfl, rfl, a, b, j.size, hT.sizeOf w, r1, ?_⟩
      have hmul : a * j.size ≤ n * j.size := Nat.mul_le_mul_right _ (by omega)
      by_cases hna : n = a
      · rw [if_pos hna]
        have hba : b - a = 0 := by omega
        rw [hba]
        exact VRel.slice hi2 (Nat.zero_le _) (by have : n - a = 0 := by omega
                                                 rw [this]; omega) (.inl rfl) (.inl rfl)
      · rw [if_neg hna]
        refine VRel.slice hi2 (by omega) ?_ (.inr (by omega)) (.inl rfl)
        have e1 : (n - a) * l.es.n = n * j.size - a * j.size := by rw [hes, ← z1, Nat.sub_mul]
        rw [e1]; omega
    · cases he
  · cases he

theorem slice_does (ok : EnvOK E) (hb : Base E ρ st.n) (hs : SRel ρ st.σ tm) (hh : HRel ρ (getR st.h) w) {t : TypeId} {x : Operand} {lo hi mx : Option Operand} (he : opSlice E st t x lo hi mx = some (.val v h' n')) :
    Does E.P ρ st.h st.n w (do pure (.value (← Instr.sliceAt t (evalT tm x) (lo.map (evalT tm)) (hi.map (evalT tm)) (mx.map (evalT tm))))) v h' n' := by
  unfold opSlice at he
  split at he
  · rename_i i o n cc d hx hd
    have hT := ok.ti hd
    have hu := hT.underlying (w := w)
    have hr := opnd_rel hb hs hx
    split at he
    · rename_i e es c hde hcell
      rw [hde] at hu
      split at he
      · rename_i j hj
        have hJ := ok.ti hj
        rw [cond_eq_ite, beq_iff] at he
        split at he
        · rename_i hz
          rw [decide_eq_true_eq] at hz
          obtain ⟨b, a, q1, q2, rfl, rfl, rfl⟩ := sliceCut_parts he
          obtain ⟨l, c', T, fr, h1, hes, h3, h4, h5, h6, h7, h8⟩ := row_read hh hcell
          generalize hv : evalT tm x = u at hr
          cases hr with
          | slice hi1 k1 k2 k3 k4 =>
          rename_i o' cap l2
          rw [h1] at hi1; injection hi1 with hi1; subst hi1
          obtain ⟨r1, r2, r3⟩ := bounds_run hb hs q1 q2 true cap k1 w
          refine does_pure hh (v' := .slice (if cap = a then some ⟨l.g, o', none⟩ else some ⟨l.g, o' + a * j.size, none⟩) (b - a) (cap - a)) ?_ ?_
          · have e1 : (Instr.sliceAt t (.slice (some ⟨l.g, o', none⟩) n cap) (lo.map (evalT tm)) (hi.map (evalT tm)) none).run E.P w = .ok (.slice (if cap = a then some ⟨l.g, o', none⟩ else some ⟨l.g, o' + a * j.size, none⟩) (b - a) (cap - a)) w := by
              unfold Instr.sliceAt Instr.slice
              simp only [Sem.run_bind, hu, Result.andThen_ok, r1, hJ.sizeOf, Sem.run_pure]
              simp [add_lit]
            simp only [Option.map_none, Sem.run_bind, e1, Result.andThen_ok, Sem.run_pure]
          · by_cases hca : cap = a
            · rw [if_pos hca]
              have hba : b - a = 0 := by omega
              rw [hba]
              exact VRel.slice h1 (Nat.zero_le _) (by have : cap - a = 0 := by omega
                                                      rw [this]; have := Nat.zero_le (cap * l.es.n); omega) (.inl rfl) (.inl rfl)
            · rw [if_neg hca]
              have hmul : a * l.es.n ≤ cap * l.es.n := Nat.mul_le_mul_right _ (by omega)
              have e2 : a * j.size = a * l.es.n := by rw [hes, hz]
              refine VRel.slice h1 (by omega) ?_ ?_ (.inl rfl)
              · rw [e2, Nat.sub_mul]; omega
              · rcases k3 with k3 | k3
                · left; omega
                · right; rw [k3, e2, hes]; omega
        · cases he
      · cases he
    · cases he
  · rename_i i o d hx hd
    have hT := ok.ti hd
    have hu := hT.underlying (w := w)
    have hr := opnd_rel hb hs hx
    generalize hv : evalT tm x = u at hr
    cases hr with
    | ptr hi1 =>
    rename_i l
    split at he
    · rename_i n e hde
      rw [hde] at hu
      obtain ⟨rfl, rfl, a, b, z, r1, r2, r3⟩ := sliceArr_does ok hb hs hh hi1 he
      refine does_pure hh ?_ r3
      unfold Instr.sliceAt
      simp only [Option.map_none, Sem.run_bind, hu, Result.andThen_ok, Instr.sureAddr, Sem.run_pure, r2, r1]
      simp [add_lit]
    · rename_i ar hde
      rw [hde] at hu
      split at he
      · rename_i d2 hd2
        have hu2 := (ok.ti hd2).underlying (w := w)
        split at he
        · rename_i n e hde2
          rw [hde2] at hu2
          obtain ⟨rfl, rfl, a, b, z, r1, r2, r3⟩ := sliceArr_does ok hb hs hh hi1 he
          refine does_pure hh ?_ r3
          unfold Instr.sliceAt Instr.slice
          simp only [Option.map_none, Sem.run_bind, hu, Result.andThen_ok, asAddr, Sem.run_pure, hu2, r2, r1]
          simp [add_lit]
        · cases he
      · cases he
    · cases he
  · rename_i i o n cc d mx hx hd
    have hT := ok.ti hd
    have hu := hT.underlying (w := w)
    have hr := opnd_rel hb hs hx
    split at he
    · rename_i e es c hi hde hcell
      rw [hde] at hu
      split at he
      · rename_i j hj
        have hJ := ok.ti hj
        rw [cond_eq_ite, beq_iff] at he
        split at he
        · rename_i hz
          rw [decide_eq_true_eq] at hz
          obtain ⟨m, b, a, r, q0, q1, q2, rfl, q3, rfl, rfl⟩ := sliceCut3_parts he
          obtain ⟨l, c', T, fr, h1, hes, h3, h4, h5, h6, h7, h8⟩ := row_read hh hcell
          generalize hv : evalT tm x = u at hr
          cases hr with
          | slice hi1 k1 k2 k3 k4 =>
          rename_i o' cap l2
          rw [h1] at hi1; injection hi1 with hi1; subst hi1
          obtain ⟨r1, r2, r3, r4⟩ := bounds_run3 hb hs q0 q1 q2 cap k1 w
          refine does_pure hh (v' := .slice (if m = a then some ⟨l.g, o', none⟩ else some ⟨l.g, o' + a * j.size, none⟩) (b - a) (m - a)) ?_ ?_
          · have e1 : (Instr.sliceAt t (.slice (some ⟨l.g, o', none⟩) n cap) (lo.map (evalT tm)) (some (evalT tm hi)) (some (evalT tm mx))).run E.P w = .ok (.slice (if m = a then some ⟨l.g, o', none⟩ else some ⟨l.g, o' + a * j.size, none⟩) (b - a) (m - a)) w := by
              unfold Instr.sliceAt Instr.slice
              simp only [Sem.run_bind, hu, Result.andThen_ok, r1, hJ.sizeOf, Sem.run_pure]
              simp [add_lit]
            simp only [Option.map_some, Sem.run_bind, e1, Result.andThen_ok, Sem.run_pure]
          · have hrr : r = b - a ∨ m - a = b - a := by
              rcases q3 with q3 | q3
              · exact .inl q3
              · right; rw [q3]
            by_cases hca : m = a
            · rw [if_pos hca]
              have hba : b - a = 0 := by omega
              have hma : m - a = 0 := by omega
              rw [hba, hma] at hrr ⊢
              exact VRel.slice h1 (Nat.zero_le _) (by have := Nat.zero_le (cap * l.es.n); omega) (.inl rfl) hrr
            · rw [if_neg hca]
              have hmul : a * l.es.n ≤ m * l.es.n := Nat.mul_le_mul_right _ (by omega)
              have hmul2 : m * l.es.n ≤ cap * l.es.n := Nat.mul_le_mul_right _ (by omega)
              have e2 : a * j.size = a * l.es.n := by rw [hes, hz]
              refine VRel.slice h1 (by omega) ?_ ?_ hrr
              · rw [e2, Nat.sub_mul]; omega
              · rcases k3 with k3 | k3
                · left; omega
                · right; rw [k3, e2, hes]; omega
        · cases he
      · cases he
    · cases he
  · rename_i mx _ _ _ u hx _ _ _
    split at he
    · rename_i vs hvs
      rw [cond_eq_ite] at he
      split at he
      · rename_i hfl
        rw [Bool.and_eq_true, flatsR_eq] at hfl
        split at he
        · rename_i r hr
          rw [cond_eq_ite] at he
          split at he
          · rename_i hfr
            injection he with he; injection he with e1 e2 e3
            subst e1; subst e2; subst e3
            have heq := valOf_eq hb hs hvs hfl.2
            have m1 : lo.map (valOf E st.σ) = lo.map (evalT tm) := by cases lo with
              | none => rfl
              | some q => simp [heq q (by simp)]
            have m2 : hi.map (valOf E st.σ) = hi.map (evalT tm) := by cases hi with
              | none => rfl
              | some q => simp [heq q (by simp)]
            have m3 : mx.map (valOf E st.σ) = mx.map (evalT tm) := by cases mx with
              | none => rfl
              | some q => simp [heq q (by simp)]
            rw [m1, m2, m3] at hr
            rw [VRel.eq_of_flat hfl.1 (opnd_rel hb hs hx)]
            exact does_pure hh (by rw [Sem.run_bind, pureRun_run hr, Result.andThen_ok]; rfl) (VRel.of_flat hfr)
          · cases he
        · cases he
      · cases he
    · cases he
  · cases he

end
end Go.Ev
end

section
/- A ground evaluator for closed calls, part N: conversions, and all operations together. -/
namespace Go.Ev
open Go.RowKit

section
variable {E : Env} {ρ : Ren} {st : St} {tm : Array Value} {w : World} {v : Value} {h' : Tr RO} {n' : Nat}

theorem bytesStr_cons (v : Value) (l : List Value) : bytesStr (v :: l) = byteStr v (bytesStr l) := rfl

theorem bytesStr_rel : ∀ {l l' : List Value} {s : List UInt8}, bytesStr l = some s → VRels ρ l l' → ∃ ns : List Int, l' = ns.map (Value.int .u8) ∧ ns.map (fun n => UInt8.ofNat n.toNat) = s
  | [], l', s, h, hv => by cases hv; injection h with h; subst h; exact ⟨[], rfl, rfl⟩
  | v :: l, l', s, h, hv => by
    rw [bytesStr_cons] at h
    unfold byteStr at h
    split at h
    · rename_i n
      obtain ⟨r, hr, rfl⟩ := consO_some h
      cases hv with
      | cons h1 h2 =>
        cases h1
        obtain ⟨ns, e1, e2⟩ := bytesStr_rel hr h2
        exact ⟨.ofNat n :: ns, by rw [e1]; rfl, by simp only [List.map_cons, e2]; rfl⟩
    · cases h

theorem isU8_ok (ok : EnvOK E) {e : TypeId} (h : isU8 E e = true) (w : World) : (underlying e).run E.P w = .ok (.int .u8) w ∧ E.P.underlying e = some (.int .u8) := by
  unfold isU8 at h
  split at h
  · rename_i j hj
    have hT := ok.ti hj
    split at h
    · rename_i hu
      have := hT.underlying (w := w)
      rw [hu] at this
      exact ⟨this, by rw [hT.under, hu]⟩
    · cases h
  · cases h

theorem convPure_does (hh : HRel ρ (getR st.h) w) {src dst : TypeId} {a : Value} (he : opConvPure E st src dst a = some (.val v h' n')) : Does E.P ρ st.h st.n w (do pure (.value (← convert src dst a))) v h' n' := by
  unfold opConvPure at he
  split at he
  · rename_i r hr
    rw [cond_eq_ite] at he
    split at he
    · rename_i hf
      injection he with he; injection he with e1 e2 e3
      subst e1; subst e2; subst e3
      exact does_pure hh (by rw [Sem.run_bind, pureRun_run hr, Result.andThen_ok]; rfl) (VRel.of_flat hf)
    · cases he
  · cases he

theorem heap_freeze_new (w : World) (c : List Value) (T : TypeId) (d : Nat) : ({ w with drawn := d, heap := w.heap.push (.cells ⟨c⟩ T (0, 0)) }.freeze ⟨w.heap.size, c.length, none⟩ 1) =
    { w with drawn := d, heap := w.heap.push (.cells ⟨c⟩ T (c.length, c.length + 1)) } := by
  simp only [World.freeze, Nat.one_ne_zero, if_false]
  congr 1
  apply Array.ext_getElem?
  intro k
  rw [Array.getElem?_modify, Array.getElem?_push, Array.getElem?_push]
  by_cases hk : k = w.heap.size
  · subst hk; simp
  · simp [hk, Ne.symm hk]

theorem shape_cells {P : Program} {g : Nat} {c : Array Value} {T : TypeId} {fr : Nat × Nat} (h : w.heap[g]? = some (.cells c T fr)) : (shape g).run P w = .ok (some (T, c.size)) w := by
  simp [shape, Sem.run, World.shape?, h]

theorem seenAt_cells {P : Program} {a : Addr} {c : Array Value} {T : TypeId} {fr : Nat × Nat} (h : w.heap[a.block]? = some (.cells c T fr)) : (Conv.seenAt a).run P w = .ok a w := by
  unfold Conv.seenAt
  have : (viewAt a.block).run P w = .ok none w := by
    unfold viewAt
    simp only [Sem.run_bind, shape_cells h, Result.andThen_ok]
    rfl
  simp [this]

theorem unsafe_does (ok : EnvOK E) (_hb : Base E ρ st.n) (_hs : SRel ρ st.σ tm) (hh : HRel ρ (getR st.h) w) {src dst : TypeId} {s d : TI} (hsrc : ti E src = some s) (hdst : ti E dst = some d) {i o : Nat} {x' : Value} (hx : VRel ρ (.pointer (some ⟨i, o, none⟩)) x')
    (he : opUnsafe E st s.under d.under i o = some (.val v h' n')) : Does E.P ρ st.h st.n w (do pure (.value (← convert src dst x'))) v h' n' := by
  have hus := (ok.ti hsrc).underlying (w := w)
  have hud := (ok.ti hdst).underlying (w := w)
  unfold opUnsafe at he
  split at he
  · rename_i t es c hse hde hc
    rw [hse] at hus; rw [hde] at hud
    split at he
    · rename_i j hj
      rw [cond_eq_ite] at he
      split at he
      · rename_i hcond
        rw [Bool.and_eq_true, blt_iff, decide_eq_true_eq, lenR_eq, Bool.not_eq_true', beq_iff, decide_eq_false_iff_not] at hcond
        injection he with he; injection he with e1 e2 e3
        subst e1; subst e2; subst e3
        obtain ⟨l, c', T, fr, h1, hes, h3, h4, h5, h6, h7, h8⟩ := row_at hh hc
        cases hx with
        | ptr hi =>
        rw [h1] at hi; injection hi with hi; subst hi
        refine does_pure hh (v' := .pointer (some ⟨l.g, l.sh + o, none⟩)) ?_ (.ptr h1)
        have hsn : (Conv.seenAt ⟨l.g, l.sh + o, none⟩).run E.P w = .ok ⟨l.g, l.sh + o, none⟩ w := seenAt_cells h3
        have hci : (cellsIn l.g).run E.P w = .ok (some c'.length) w := by
          unfold cellsIn
          simp only [Sem.run_bind, shape_cells h3, Result.andThen_ok]
          rfl
        have hsz := (ok.ti hj).sizeOf w
        have hlt : ¬ (c'.length ≤ l.sh + o) := by omega
        have hcv : (Conv.unsafePointer src dst (.pointer (some ⟨l.g, l.sh + o, none⟩))).run E.P w = .ok (.pointer (some ⟨l.g, l.sh + o, none⟩)) w := by
          unfold Conv.unsafePointer
          simp only [Sem.run_bind, hus, hud, Result.andThen_ok, hsn, hci, hsz]
          simp [hlt, hcond.2]
        unfold convert
        simp only [Sem.run_bind, hus, hud, Result.andThen_ok, hcv, Sem.run_pure]
      · cases he
    · cases he
  · rename_i u es c hse hde hc
    rw [hse] at hus; rw [hde] at hud
    split at he
    · rename_i T j hwh hT hj
      rw [cond_eq_ite] at he
      split at he
      · rename_i hlies
        injection he with he; injection he with e1 e2 e3
        subst e1; subst e2; subst e3
        obtain ⟨l, c', T', fr, h1, hes, h3, h4, h5, h6, h7, h8, h9, h10⟩ := row_more hh hc
        cases hx with
        | ptr hi =>
        rw [h1] at hi; injection hi with hi; subst hi
        have hTT : T' = T := (h9 T (by rw [hes]; exact hT)).1
        subst hTT
        obtain ⟨z1, z2⟩ := h10 (by rw [hes]; exact hwh)
        refine does_pure hh (v' := .pointer (some ⟨l.g, l.sh + o, none⟩)) ?_ (.ptr h1)
        have hsn : (Conv.seenAt ⟨l.g, l.sh + o, none⟩).run E.P w = .ok ⟨l.g, l.sh + o, none⟩ w := seenAt_cells h3
        have hva : (variablesAt ⟨l.g, l.sh + o, none⟩ u 1).run E.P w = .ok true w := by
          unfold variablesAt
          have hp : (program : Sem Program).run E.P w = .ok E.P w := rfl
          simp only [Sem.run_bind, hp, shape_cells h3, Result.andThen_ok, Sem.run_pure]
          rw [lenR_eq] at hlies
          congr 1
          rw [z1, Nat.zero_add, show (⟨c'⟩ : Array Value).size = c.length by show c'.length = _; omega]
          exact hlies
        have hcv : (Conv.unsafePointer src dst (.pointer (some ⟨l.g, l.sh + o, none⟩))).run E.P w = .ok (.pointer (some ⟨l.g, l.sh + o, none⟩)) w := by
          unfold Conv.unsafePointer
          have hsz := (ok.ti hj).sizeOf w
          simp only [Sem.run_bind, hus, hud, Result.andThen_ok, hsn, hsz]
          by_cases hz : j.size = 0 <;> simp [hz, hva]
        unfold convert
        simp only [Sem.run_bind, hus, hud, Result.andThen_ok, hcv, Sem.run_pure]
      · cases he
    · cases he
  · cases he

theorem convert_does (ok : EnvOK E) (hb : Base E ρ st.n) (hs : SRel ρ st.σ tm) (hh : HRel ρ (getR st.h) w) (hf : Fresh ρ st.n n') {src dst : TypeId} {x : Operand} (he : opConvert E st src dst x = some (.val v h' n')) :
    Does E.P ρ st.h st.n w (do pure (.value (← convert src dst (evalT tm x)))) v h' n' := by
  unfold opConvert at he
  split at he
  · rename_i i o s d hx hs2 hd
    exact unsafe_does ok hb hs hh hs2 hd (opnd_rel hb hs hx) he
  · rename_i i o n cc s d hx hs2 hd
    have hS := ok.ti hs2
    have hD := ok.ti hd
    have hus := hS.underlying (w := w)
    have hud := hD.underlying (w := w)
    split at he
    · rename_i e es c hse hde hc
      rw [hse] at hus; rw [hde] at hud
      rw [cond_eq_ite] at he
      split at he
      · rename_i h8
        split at he
        · rename_i vs hvs
          split at he
          · rename_i l hl
            injection he with he; injection he with e1 e2 e3
            subst e1; subst e2; subst e3
            obtain ⟨lc, c', T, fr, h1, hes, h3, h4, h5, h6, h7, h8'⟩ := row_read hh hc
            have hr := opnd_rel hb hs hx
            generalize hv : evalT tm x = u at hr
            cases hr with
            | slice hi k1 k2 k3 k4 =>
            rename_i o' cap l2
            rw [h1] at hi; injection hi with hi; subst hi
            obtain ⟨p1, p2, p3⟩ := cut_eq _ _ _ _ hvs
            have hload : ∃ vs', (loadCells ⟨lc.g, o', none⟩ n).run E.P w = .ok ⟨vs'⟩ w ∧ VRels ρ vs vs' := by
              by_cases h0 : n = 0
              · subst h0
                have : vs = [] := List.length_eq_zero_iff.1 p2
                rw [this]
                exact ⟨[], by simp [loadCells, loadCellsFrom], .nil⟩
              · have ho : o' = lc.sh + o := by rcases k3 with k3 | k3; · exact absurd k3 h0
                                               · exact k3
                subst ho
                obtain ⟨r1, r2⟩ := cut_rel h8' (by omega) hvs
                exact ⟨_, load_cells h3 r2, r1⟩
            obtain ⟨vs', q1, q2⟩ := hload
            obtain ⟨ns, m1, m2⟩ := bytesStr_rel hl q2
            have hld : (loadCells ⟨lc.g, o', none⟩ n).run E.P w = .ok (ns.map (Value.int .u8)).toArray w := by rw [q1, m1]
            have hbs := run_bytesToString (P := E.P) w ⟨lc.g, o', none⟩ n cap ns hld
            rw [foldl_push_bytes, m2] at hbs
            have hbs' : (Conv.bytesToString (.slice (some ⟨lc.g, o', none⟩) n cap)).run E.P w = .ok (.string ⟨⟨l⟩⟩) w := by
              rw [hbs]; congr 2; apply ByteArray.ext; apply Array.ext'; simp [ByteArray.empty, ByteArray.emptyWithCapacity]; rfl
            refine does_pure hh (v' := .string ⟨⟨l⟩⟩) ?_ (.string _)
            unfold convert
            simp only [Sem.run_bind, hus, hud, Result.andThen_ok, (isU8_ok ok h8 w).1, hbs', Sem.run_pure]
          · cases he
        · cases he
      · cases he
    · cases he
  · rename_i s ds d hx hds hd
    have hD := ok.ti hd
    have hDS := ok.ti hds
    have hus := hDS.underlying (w := w)
    have hud := hD.underlying (w := w)
    have hr := opnd_rel hb hs hx
    rw [VRel.eq_of_flat rfl hr]
    split at he
    · rename_i e hde
      rw [hde] at hud
      rw [cond_eq_ite] at he
      split at he
      · rename_i h8
        obtain ⟨hbig, rfl, rfl, rfl⟩ := fresh_parts he
        have hfn : ρ st.n = none := hf st.n (Nat.le_refl _) (Nat.lt_succ_self _)
        have hu8 := (isU8_ok ok h8 w).1
        let q : Question := .appendCap s.size 0 e
        have hq : s.size ≤ q.cut (w.tape w.drawn q) := by simp [q, Question.cut]
        generalize hnc : q.cut (w.tape w.drawn q) = nc at hq
        have hsz : s.size = s.data.toList.length := by simp
        let c' : List Value := strBytes s ++ List.replicate (nc - s.size) (.int .u8 0)
        have hc' : (⟨c'⟩ : Array Value) = (s.data.map fun b => Value.int .u8 b.toNat) ++ Array.replicate (nc - s.size) (.int .u8 0) := by
          apply Array.ext'
          simp [c', strBytes]
        have hl' : c'.length = nc := by simp [c', strBytes]; omega
        let l : Loc := ⟨w.heap.size, 0, c'.length, ⟨1, none, false⟩⟩
        let w' : World := { w with drawn := w.drawn + 1, heap := w.heap.push (.cells ⟨c'⟩ e (c'.length, c'.length + 1)) }
        have hfl : flats (strBytes s) = true := by
          unfold strBytes
          induction s.data.toList with
          | nil => rfl
          | cons b l ih => simp only [List.map_cons, flats, flat, Bool.true_and]; exact ih
        have hon : ones (strBytes s) = true := by
          unfold strBytes
          induction s.data.toList with
          | nil => rfl
          | cons b l ih => simp only [List.map_cons, ones, one, Bool.true_and]; exact ih
        have hsl : (strBytes s).length = s.size := by simp [strBytes]
        have hgo := goes_fresh (w' := w') (h' := getR (putR st.h st.n (some (.cells ⟨1, none, false⟩ (strBytes s))))) hh hfn l (.cells ⟨1, none, false⟩ (strBytes s)) (.cells ⟨c'⟩ e (c'.length, c'.length + 1)) (fun q => getR_putR _ _ _ hbig q) rfl rfl rfl rfl rfl (by
          refine ORel.cells (l := l) rfl (by show 0 + _ ≤ c'.length; omega) hon (fun k hk => by show ¬ (c'.length ≤ k ∧ _); have : k < c'.length := hk; omega) ?_ (fun _ h => by cases h) (fun h => by cases h)
          show VRels _ (strBytes s) ((c'.drop 0).take (strBytes s).length)
          rw [List.drop_zero, List.take_left']
          · exact VRels.of_flats hfl
          · rfl)
        refine ⟨.slice (some ⟨w.heap.size, 0, none⟩) s.size nc, w', _, .inl ?_, ?_, hgo⟩
        · have hch : (choose q).run E.P w = .ok nc { w with drawn := w.drawn + 1 } := by simp [choose, Sem.run, Question.forced, q, ← hnc]
          have hrun : (Conv.stringToBytes e s).run E.P w = .ok (.slice (some ⟨w.heap.size, 0, none⟩) s.size nc) w' := by
            unfold Conv.stringToBytes
            rw [Sem.run_bind, show (choose (.appendCap s.size 0 e)).run E.P w = _ from hch, Result.andThen_ok]
            simp only [Sem.run_bind, run_newRow, Result.andThen_ok, ← hc']
            have hm : (markStringish ⟨w.heap.size, 0, none⟩).run E.P { w with drawn := w.drawn + 1, heap := w.heap.push (.cells ⟨c'⟩ e (0, 0)) } = .ok () w' := by
              have hsh : World.shape? { w with drawn := w.drawn + 1, heap := w.heap.push (.cells ⟨c'⟩ e (0, 0)) } w.heap.size = some (e, c'.length) := by simp [World.shape?]
              simp only [markStringish, shape, freeze, Sem.run_bind, Sem.run, Result.andThen_ok, hsh]
              rw [heap_freeze_new]
            have hm2 := hm
            rw [hm2, Result.andThen_ok]
            rfl
          unfold convert
          simp only [Sem.run_bind, hus, hud, Result.andThen_ok, hu8]
          cases hq2 : ds.under <;> simp [hrun]
        · rw [lenR_eq, ← hsz]
          exact VRel.slice (l := l) (o := 0) (o' := 0) (more_same ρ st.n l) hq (by show 0 + nc * 1 ≤ c'.length; omega) (.inr rfl) (.inl rfl)
      · cases he
    · exact convPure_does hh he
  · rename_i a hx _ _ _
    rw [cond_eq_ite] at he
    split at he
    · rename_i hfl
      rw [VRel.eq_of_flat hfl (opnd_rel hb hs hx)]
      exact convPure_does hh he
    · cases he
  · cases he

end
end Go.Ev
end

