/- A ground evaluator for closed calls, part L: append and copy. -/
import Derived.Test.YtggcnnpklkmeoaaGreatDoorEF
section
namespace Go.Ev
open Go.RowKit

theorem growBy_le (n : Nat) : ∀ (r c : Nat), Builtin.growBy n r c ≤ 2 ^ r * (c + 768)
  | 0, c => by simp [Builtin.growBy]
  | r + 1, c => by
    simp only [Builtin.growBy]
    have hp : 1 ≤ 2 ^ r := Nat.one_le_two_pow
    split
    · rw [Nat.pow_succ]
      calc c ≤ 1 * (c + 768) := by omega
        _ ≤ (2 ^ r * 2) * (c + 768) := Nat.mul_le_mul_right _ (by omega)
    · refine Nat.le_trans (growBy_le n r _) ?_
      rw [Nat.pow_succ, Nat.mul_assoc]
      exact Nat.mul_le_mul_left _ (by omega)

set_option maxRecDepth 100000 in
theorem nextcap_le {need cap : Nat} (h : cap < need) (hn : need ≤ 2000000) : Builtin.nextslicecap need cap ≤ 40000000 := by
  unfold Builtin.nextslicecap
  split
  · omega
  · split
    · omega
    · have := growBy_le need 4 cap
      omega

theorem sameT_some {a : Option TypeId} {e t : TypeId} (h : sameT a e = some t) : t = e ∧ a = some t := by
  unfold sameT at h
  split at h
  · split at h
    · rename_i u hu
      injection h with h; subst h
      exact ⟨Nat.eq_of_beq_eq_true hu, rfl⟩
    · cases h
  · cases h

section
variable {E : Env} {ρ : Ren} {st : St} {tm : Array Value} {w : World} {v : Value} {h' : Tr RO} {n' : Nat}

/-- A row that has grown: where it is, and what it holds. -/
theorem grown {h : Tr RO} {n : Nat} (hh : HRel ρ (getR h) w) (hbig : n < big) (hf : ρ n = none) {z k m nc : Nat} {e : TypeId} {zv : Value} {es : ES} (hzc : zv.cells.toList.length = z) (hes : es.n = z) (het : ∀ t, es.t = some t → e = t) (hew : es.whole = false)
    {old new old' new' : List Value} (hold : VRels ρ old old') (hnew : VRels ρ new new') (ho : old.length = k * z) (hn : new.length = m * z) (o1 : ones old = true) (o2 : ones new = true) (hq : k + m ≤ nc) :
    ∃ ρ', VRel ρ' (.slice (some ⟨n, 0, none⟩) (k + m) (k + m)) (.slice (some ⟨w.heap.size, 0, none⟩) (k + m) nc) ∧
      Goes ρ (getR h) n w ρ' (getR (putR h n (some (.cells es (old ++ new))))) (n + 1) (w.drew.alloc (.cells (⟨old'⟩ ++ (⟨new'⟩ ++ Builtin.zeroCells zv.cells (nc - (k + m)))) e)) := by
  have hzl : (Builtin.zeroCells zv.cells (nc - (k + m))).toList.length = (nc - (k + m)) * z := by
    have : zv.cells.size = z := by simpa using hzc
    simp [Builtin.zeroCells, this]
  generalize hr : (Builtin.zeroCells zv.cells (nc - (k + m))).toList = rest at hzl
  have hcells : ((⟨old'⟩ : Array Value) ++ (⟨new'⟩ ++ Builtin.zeroCells zv.cells (nc - (k + m)))) = ⟨old' ++ new' ++ rest⟩ := by
    apply Array.ext'
    simp [← hr]
  rw [hcells]
  have lo : old'.length = k * z := by rw [← hold.length, ho]
  have ln : new'.length = m * z := by rw [← hnew.length, hn]
  have hsum : k * z + m * z + (nc - (k + m)) * z = nc * z := by
    rw [← Nat.add_mul, ← Nat.add_mul]; congr 1; omega
  let l : Loc := ⟨w.heap.size, 0, (old' ++ new' ++ rest).length, es⟩
  have hlen : (old' ++ new' ++ rest).length = nc * z := by rw [List.length_append, List.length_append, lo, ln, hzl, hsum]
  refine ⟨more ρ n l, ?_, goes_fresh hh hf l _ _ (fun j => getR_putR h n _ hbig j) rfl rfl rfl rfl rfl ?_⟩
  · exact VRel.slice (l := l) (o := 0) (o' := 0) (more_same ρ n l) hq (by show 0 + nc * es.n ≤ (old' ++ new' ++ rest).length; rw [hes]; omega) (.inr rfl) (.inl rfl)
  · have g := grows_more (l := l) hf
    have hv : VRels ρ (old ++ new) ((old' ++ new' ++ rest).take (old ++ new).length) := by
      have e1 : (old ++ new).length = (old' ++ new').length := by rw [List.length_append, List.length_append, hold.length, hnew.length]
      rw [e1, List.take_left']
      · exact hold.append hnew
      · rfl
    exact orel_new (l := l) (hv.mono g) (ones_append o1 o2) rfl rfl (by rw [List.length_append, List.length_append, List.length_append, ho, hn, lo, ln]; omega) het (fun h => by rw [show l.es.whole = false from hew] at h; cases h)

/-- The same for a row of which a part may be shared. -/
theorem grownF (fz : Nat) {h : Tr RO} {n : Nat} (hh : HRel ρ (getR h) w) (hbig : n < big) (hf : ρ n = none) {z k m nc : Nat} {e : TypeId} {zv : Value} {es : ES} (hzc : zv.cells.toList.length = z) (hes : es.n = z) (het : ∀ t, es.t = some t → e = t) (_hew : es.whole = false)
    {old new old' new' : List Value} (hold : VRels ρ old old') (hnew : VRels ρ new new') (ho : old.length = k * z) (hn : new.length = m * z) (o1 : ones old = true) (o2 : ones new = true) (hq : k + m ≤ nc) :
    ∃ ρ', VRel ρ' (.slice (some ⟨n, 0, none⟩) (k + m) (k + m)) (.slice (some ⟨w.heap.size, 0, none⟩) (k + m) nc) ∧
      Goes ρ (getR h) n w ρ' (getR (putR h n (some (.froz fz es (old ++ new))))) (n + 1) (w.drew.alloc (.cells (⟨old'⟩ ++ (⟨new'⟩ ++ Builtin.zeroCells zv.cells (nc - (k + m)))) e)) := by
  have hzl : (Builtin.zeroCells zv.cells (nc - (k + m))).toList.length = (nc - (k + m)) * z := by
    have : zv.cells.size = z := by simpa using hzc
    simp [Builtin.zeroCells, this]
  generalize hr : (Builtin.zeroCells zv.cells (nc - (k + m))).toList = rest at hzl
  have hcells : ((⟨old'⟩ : Array Value) ++ (⟨new'⟩ ++ Builtin.zeroCells zv.cells (nc - (k + m)))) = ⟨old' ++ new' ++ rest⟩ := by
    apply Array.ext'
    simp [← hr]
  rw [hcells]
  have lo : old'.length = k * z := by rw [← hold.length, ho]
  have ln : new'.length = m * z := by rw [← hnew.length, hn]
  have hsum : k * z + m * z + (nc - (k + m)) * z = nc * z := by
    rw [← Nat.add_mul, ← Nat.add_mul]; congr 1; omega
  let l : Loc := ⟨w.heap.size, 0, (old' ++ new' ++ rest).length, es⟩
  have hlen : (old' ++ new' ++ rest).length = nc * z := by rw [List.length_append, List.length_append, lo, ln, hzl, hsum]
  refine ⟨more ρ n l, ?_, goes_fresh hh hf l _ _ (fun j => getR_putR h n _ hbig j) rfl rfl rfl rfl rfl ?_⟩
  · exact VRel.slice (l := l) (o := 0) (o' := 0) (more_same ρ n l) hq (by show 0 + nc * es.n ≤ (old' ++ new' ++ rest).length; rw [hes]; omega) (.inr rfl) (.inl rfl)
  · have g := grows_more (l := l) hf
    have hv : VRels ρ (old ++ new) ((old' ++ new' ++ rest).take (old ++ new).length) := by
      have e1 : (old ++ new).length = (old' ++ new').length := by rw [List.length_append, List.length_append, hold.length, hnew.length]
      rw [e1, List.take_left']
      · exact hold.append hnew
      · rfl
    exact ORel.froz (l := l) rfl (by show 0 + _ ≤ (old' ++ new' ++ rest).length; rw [List.length_append, List.length_append, List.length_append, ho, hn, lo, ln]; omega) (ones_append o1 o2) (fun k _ a b => by simp at b) (by show VRels _ _ (((old' ++ new' ++ rest).drop 0).take _); rw [List.drop_zero]; exact hv.mono g) (fun t h => ⟨het t h, .inl rfl⟩)

theorem run_app_room {P : Program} {argTypes : Array TypeId} {type t t2 e : TypeId} {d2 : TypeDesc} {z m k cap : Nat} {base : Option Addr} {x' : Value} {new' : List Value} (hat : argTypes[0]? = some t) (hat2 : argTypes[1]? = some t2)
    (hu : (underlying t).run P w = .ok (.slice e) w) (hu2 : (underlying t2).run P w = .ok d2 w) (hni : notInt d2 = true) (hsz : (sizeOf e).run P w = .ok z w) (hl : (Builtin.lenOf x').run P w = .ok m w)
    (hn : (Builtin.firstCells z m x').run P w = .ok ⟨new'⟩ w) (hroom : k + m ≤ cap) {w' : World} (hst : ∀ a, base = some a → (storeCells (a.add (k * z)) new').run P w = .ok () w') (hno : base = none → w' = w) :
    (Builtin.append_ argTypes type ⟨[.slice base k cap, x']⟩).run P w = .ok (.slice base (k + m) cap) w' := by
  have e1 : (⟨[.slice base k cap, x']⟩ : Array Value)[0]? = some (.slice base k cap) := rfl
  have e2 : (⟨[.slice base k cap, x']⟩ : Array Value)[1]? = some x' := rfl
  unfold Builtin.append_
  simp only [hat, e1, e2, Sem.run_bind, hu, Result.andThen_ok, hsz, hat2, hu2, Sem.run_pure]
  cases d2 <;> simp [notInt] at hni <;> cases base <;> simp [hl, hn, hroom] <;> first | (rw [hno rfl]; done) | (rw [hst _ rfl]; rfl) | skip

theorem run_app_grow {P : Program} {argTypes : Array TypeId} {type t t2 e : TypeId} {d2 : TypeDesc} {z m k cap : Nat} {base : Option Addr} {x' zv : Value} {j : TypeInfo} {old' new' : Array Value} (hat : argTypes[0]? = some t) (hat2 : argTypes[1]? = some t2)
    (hu : (underlying t).run P w = .ok (.slice e) w) (hu2 : (underlying t2).run P w = .ok d2 w) (hni : notInt d2 = true) (hsz : (sizeOf e).run P w = .ok z w) (hl : (Builtin.lenOf x').run P w = .ok m w)
    (hj : ∀ w, (typeInfo e).run P w = .ok j w) (hz : ∀ w, (zeroValue e).run P w = .ok zv w) (hroom : ¬ k + m ≤ cap) (hk : k ≤ 1000000) (hm : m ≤ 1000000) (hb : j.bytes ≤ 4096) (hb1 : j.bytes ≠ 0)
    (ho : (Builtin.firstCells z k (.slice base k cap)).run P w.drew = .ok old' w.drew)
    (hn : (Builtin.firstCells z m x').run P w.drew = .ok new' w.drew) :
    ∃ nc, k + m ≤ nc ∧ (Builtin.append_ argTypes type ⟨[.slice base k cap, x']⟩).run P w =
      .ok (.slice (some ⟨w.heap.size, 0, none⟩) (k + m) nc) (w.drew.alloc (.cells (old' ++ (new' ++ Builtin.zeroCells zv.cells (nc - (k + m)))) e)) := by
  have e1 : (⟨[.slice base k cap, x']⟩ : Array Value)[0]? = some (.slice base k cap) := rfl
  have e2 : (⟨[.slice base k cap, x']⟩ : Array Value)[1]? = some x' := rfl
  refine ⟨(Question.appendCap (k + m) cap e).cut (w.tape w.drawn (.appendCap (k + m) cap e)), by simp [Question.cut], ?_⟩
  have hcap := nextcap_le (need := k + m) (cap := cap) (by omega) (by omega)
  have hmul : Builtin.nextslicecap (k + m) cap * j.bytes ≤ 40000000 * 4096 := Nat.mul_le_mul hcap hb
  have h48 : ¬ (281474976710656 < Builtin.nextslicecap (k + m) cap * j.bytes) := by omega
  unfold Builtin.append_
  simp only [hat, e1, e2, Sem.run_bind, hu, Result.andThen_ok, hsz, hat2, hu2, Sem.run_pure]
  cases d2 <;> simp [notInt] at hni <;> simp [hl, hroom, hj, hb1, h48, Question.forced, ho, hn, hz, run_newRow]


theorem HRel.drew {h : Mem} (hh : HRel ρ h w) : HRel ρ h w.drew := ⟨hh.at_, hh.inj⟩

theorem fresh_parts {h : Tr RO} {n : Nat} {o : RO} {vf : Nat → Value} (he : fresh h n o vf = some (.val v h' n')) : n < big ∧ v = vf n ∧ h' = putR h n (some o) ∧ n' = n + 1 := by
  unfold fresh at he
  rw [cond_eq_ite, blt_iff] at he
  split at he
  · rename_i hb; injection he with he; injection he with e1 e2 e3
    exact ⟨by simpa using hb, e1.symm, e2.symm, e3.symm⟩
  · cases he

theorem append_does (ok : EnvOK E) (hh : HRel ρ (getR st.h) w) (hf : Fresh ρ st.n n') {argTypes : Array TypeId} {type : TypeId} {args args' : List Value} (ha : VRels ρ args args') (he : opAppend E st argTypes.toList args = some (.val v h' n')) :
    Does E.P ρ st.h st.n w (do pure (.value (← Builtin.append_ argTypes type ⟨args'⟩))) v h' n' := by
  unfold opAppend at he
  split at he
  · rename_i t t2 s x ht
    have hat : argTypes[0]? = some t := by rw [← Array.getElem?_toList, ht]; rfl
    have hat2 : argTypes[1]? = some t2 := by rw [← Array.getElem?_toList, ht]; rfl
    cases ha with
    | cons hs hr =>
    cases hr with
    | cons hx hr2 =>
    cases hr2
    rename_i s' x'
    split at he
    · rename_i d d2 hd hd2
      have hD := ok.ti hd
      have hD2 := ok.ti hd2
      have hu := fun w => hD.underlying (w := w)
      have hu2 := fun w => hD2.underlying (w := w)
      split at he
      · rename_i e hde
        rw [hde] at hu
        split at he
        · rename_i j hj
          have hT := ok.ti hj
          obtain ⟨ij, hi1, hi2, hi3⟩ := hT.typeBytes
          obtain ⟨zv, hz, hzc, _⟩ := hT.zeroValue
          have hzl : zv.cells.toList.length = j.size := by rw [hzc, hT.len]
          rw [cond_eq_ite] at he
          split at he
          · rename_i hc
            simp only [Bool.and_eq_true, ble_iff, decide_eq_true_eq] at hc
            obtain ⟨⟨⟨⟨⟨c1, c2⟩, c3⟩, c4⟩, c5⟩, c6⟩ := hc
            split at he
            · rename_i new hnew
              obtain ⟨r1, r2, _, r4⟩ := src_rel (E := E) hh hnew hx
              obtain ⟨rl, rf⟩ := r1 (lenOf x)
              obtain ⟨new', rn, rv⟩ := rf (Nat.le_refl _)
              obtain ⟨r1d, _, _, _⟩ := src_rel (E := E) (w := w.drew) hh.drew hnew hx
              obtain ⟨newd, rnd, rvd⟩ := (r1d (lenOf x)).2 (Nat.le_refl _)
              rw [← r2, List.take_length] at rv rvd
              have o2' : ∀ u ∈ new', one u = true := ones_mem (by rw [rv.ones]; exact r4)
              have lnew : new'.length = lenOf x * j.size := by rw [← rv.length, r2]
              have hb0 : ij.bytes ≠ 0 := by omega
              unfold appendTo at he
              split at he
              · rename_i a b
                cases hs
                rw [cond_eq_ite, beq_iff, lenR_eq] at he
                split at he
                · rename_i h0
                  rw [decide_eq_true_eq, r2] at h0
                  have hm0 : lenOf x = 0 := by
                    rcases Nat.mul_eq_zero.1 h0 with h | h
                    · exact h
                    · omega
                  injection he with he; injection he with e1 e2 e3
                  subst e1; subst e2; subst e3
                  refine does_pure hh (v' := .slice none 0 0) ?_ .nilSlice
                  rw [Sem.run_bind, run_app_room (k := 0) (cap := 0) (base := none) hat hat2 (hu w) (hu2 w) c1 (hT.sizeOf w) rl rn (by omega) (by simp) (fun _ => rfl), Result.andThen_ok, hm0]
                  rfl
                · rename_i h0
                  rw [decide_eq_true_eq, r2] at h0
                  have hm0 : 0 < lenOf x := by
                    rcases Nat.eq_zero_or_pos (lenOf x) with h | h
                    · rw [h] at h0; simp at h0
                    · exact h
                  obtain ⟨hbig, rfl, rfl, rfl⟩ := fresh_parts he
                  have hfn : ρ st.n = none := hf st.n (Nat.le_refl _) (Nat.lt_succ_self _)
                  obtain ⟨nc, q1, q2⟩ := run_app_grow (type := type) (k := 0) (cap := 0) (base := none) (old' := #[]) hat hat2 (hu w) (hu2 w) c1 (hT.sizeOf w) rl hi1 hz (by omega) (by omega) c6 (by omega) hb0 (by simp [Builtin.firstCells]) rnd
                  obtain ⟨ρ', g1, g2⟩ := grown (z := j.size) (k := 0) (m := lenOf x) (e := e) (old := []) (old' := []) hh hbig hfn hzl (es := ⟨j.size, some e, false⟩) rfl (fun _ h => by injection h) rfl .nil rvd (by simp) r2 rfl r4 q1
                  refine ⟨_, _, ρ', .inl (by rw [Sem.run_bind, q2, Result.andThen_ok]; rfl), ?_, g2⟩
                  have e1 : Nat.div new.length j.size = 0 + lenOf x := by
                    rw [r2, Nat.zero_add]; exact Nat.mul_div_cancel _ (by omega)
                  rw [e1]
                  exact g1
              · rename_i i o k r
                split at he
                · rename_i es c hcell
                  rw [cond_eq_ite] at he
                  split at he
                  · rename_i hcond
                    rw [Bool.and_eq_true, beq_iff, blt_iff, decide_eq_true_eq, decide_eq_true_eq] at hcond
                    obtain ⟨z1, z2⟩ := hcond
                    split at he
                    · rename_i old hold
                      obtain ⟨l, c', T, fr, h1, hes, h3, h4, h5, h6, h7, h8, h9, _⟩ := row_more hh hcell
                      cases hs with
                      | slice hi k1 k2 k3 k4 =>
                      rename_i o' cap l2
                      rw [h1] at hi; injection hi with hi; subst hi
                      have hne : getR st.h i ≠ none := by rw [cellsOf_some hcell]; simp
                      rw [cond_eq_ite, beq_iff, lenR_eq] at he
                      obtain ⟨p1, p2, p3⟩ := cut_eq _ _ _ _ hold
                      have p2' : old.length = k * j.size := p2
                      have oold : ones old = true := by rw [p1]; exact ones_take _ (ones_drop _ h6)
                      have hkk : k ≤ 1000000 := c5
                      rw [hes, z1] at k2
                      -- the old elements, as they lie
                      have hold' : VRels ρ old ((c'.drop o').take (k * j.size)) ∧ (k = 0 ∨ o' + k * j.size ≤ c'.length) := by
                        by_cases hk0 : k = 0
                        · subst hk0
                          have : old = [] := List.length_eq_zero_iff.1 (by rw [p2']; simp)
                          rw [this]; simp; exact .nil
                        · have ho : o' = l.sh + o := by rcases k3 with k3 | k3; · exact absurd k3 hk0
                                                        · exact k3
                          subst ho
                          obtain ⟨s1, s2⟩ := cut_rel h8 (by omega) hold
                          exact ⟨s1, .inr s2⟩
                      split at he
                      · rename_i h0
                        rw [decide_eq_true_eq, r2] at h0
                        have hm0 : lenOf x = 0 := by
                          rcases Nat.mul_eq_zero.1 h0 with h | h
                          · exact h
                          · omega
                        have hn0 : new' = [] := List.length_eq_zero_iff.1 (by rw [lnew, h0])
                        injection he with he; injection he with e1 e2 e3
                        subst e1; subst e2; subst e3
                        refine does_pure hh (v' := .slice (some ⟨l.g, o', none⟩) k cap) ?_ (VRel.slice h1 k1 (by rw [hes, z1]; exact k2) k3 k4)
                        rw [Sem.run_bind, run_app_room (w' := w) hat hat2 (hu w) (hu2 w) c1 (hT.sizeOf w) rl rn (by omega) (by intro a _; rw [hn0]; simp [storeCells]) (by simp), Result.andThen_ok, hm0]
                        rfl
                      · rename_i h0
                        rw [cond_eq_ite, beq_iff] at he
                        split at he
                        rotate_left
                        · rename_i hrk
                          rw [decide_eq_true_eq] at hrk
                          have hcap : cap = k := by
                            rcases k4 with k4 | k4
                            · exact absurd k4 hrk
                            · exact k4
                          have hm0 : 0 < lenOf x := by
                            rcases Nat.eq_zero_or_pos (lenOf x) with h | h
                            · rw [decide_eq_true_eq, r2, h] at h0; simp at h0
                            · exact h
                          have hroom : ¬ k + lenOf x ≤ cap := by omega
                          obtain ⟨hbig, rfl, rfl, rfl⟩ := fresh_parts he
                          have hfn : ρ st.n = none := hf st.n (Nat.le_refl _) (Nat.lt_succ_self _)
                          have e1 : Nat.add k (Nat.div new.length j.size) = k + lenOf x := by
                            have : Nat.div new.length j.size = lenOf x := by rw [r2]; exact Nat.mul_div_cancel _ (by omega)
                            rw [this]; rfl
                          have hofc : (Builtin.firstCells j.size k (.slice (some ⟨l.g, o', none⟩) k cap)).run E.P w.drew = .ok ⟨(c'.drop o').take (k * j.size)⟩ w.drew := by
                            rcases hold'.2 with hk0 | hk0
                            · subst hk0; simp [Builtin.firstCells, loadCells, loadCellsFrom]
                            · simp only [Builtin.firstCells]; exact load_cells (w := w.drew) h3 hk0
                          obtain ⟨nc, q1, q2⟩ := run_app_grow (type := type) hat hat2 (hu w) (hu2 w) c1 (hT.sizeOf w) rl hi1 hz hroom hkk c6 (by omega) hb0 hofc rnd
                          obtain ⟨ρ', g1, g2⟩ := grown (z := j.size) (k := k) (m := lenOf x) (e := e) hh hbig hfn hzl (es := ⟨j.size, sameT es.t e, false⟩) rfl (fun _ h => (sameT_some h).1.symm) rfl hold'.1 rvd p2' r2 oold r4 q1
                          refine ⟨_, _, ρ', .inl (by rw [Sem.run_bind, q2, Result.andThen_ok]; rfl), ?_, g2⟩
                          rw [e1]
                          exact g1
                        obtain ⟨hbig, rfl, rfl, rfl⟩ := fresh_parts he
                        have hfn : ρ st.n = none := hf st.n (Nat.le_refl _) (Nat.lt_succ_self _)
                        have hni : st.n ≠ i := by intro e; rw [e, h1] at hfn; cases hfn
                        have e1 : Nat.add k (Nat.div new.length j.size) = k + lenOf x := by
                          have : Nat.div new.length j.size = lenOf x := by rw [r2]; exact Nat.mul_div_cancel _ (by omega)
                          rw [this]; rfl
                        by_cases hroom : k + lenOf x ≤ cap
                        · have hfit : o' + (k * j.size + lenOf x * j.size) ≤ c'.length := by
                            have : (k + lenOf x) * j.size ≤ cap * j.size := Nat.mul_le_mul_right _ hroom
                            rw [Nat.add_mul] at this
                            omega
                          obtain ⟨w', hst, hch⟩ := run_storeCells (P := E.P) l.g (o' + k * j.size) T fr new' 0 c' w h3 (by rw [lnew]; omega) (fun q _ h => h7 q (by rw [lnew] at h; omega)) o2'
                          simp only [Nat.add_zero] at hch
                          let l' : Loc := ⟨l.g, o', l.sz, ⟨j.size, sameT es.t e, false⟩⟩
                          have hres : VRels ρ (old ++ new) (((c'.take (o' + k * j.size) ++ new' ++ c'.drop (o' + k * j.size + new'.length)).drop o').take (old ++ new).length) := by
                            have e2 : ((c'.take (o' + k * j.size) ++ new' ++ c'.drop (o' + k * j.size + new'.length)).drop o').take (old ++ new).length = (c'.drop o').take (k * j.size) ++ new' := by
                              have hl2 : (old ++ new).length = k * j.size + new'.length := by rw [List.length_append, p2', rv.length]
                              rw [hl2]
                              apply List.ext_getElem?
                              intro q
                              simp only [List.getElem?_take, List.getElem?_drop, List.getElem?_append, List.length_append, List.length_take, List.length_drop]
                              repeat' split
                              all_goals first | rfl | omega | (congr 1; omega) | (rw [List.getElem?_eq_none (by omega)])
                            rw [e2]
                            exact hold'.1.append rv
                          have hgo := goes_move (h' := getR (putR (putR st.h i none) st.n (some (.cells ⟨j.size, sameT es.t e, false⟩ (old ++ new))))) hh (n := st.n) (l' := l') hne h1 hfn rfl (.cells ⟨j.size, sameT es.t e, false⟩ (old ++ new)) _ (fun q => by
                              rw [getR_putR _ _ _ hbig, getR_putR _ _ _ z2]) hch (by
                              have g := grows_more (l := l') hfn
                              have hO : ORel (more ρ st.n l') l' (.cells l'.es (old ++ new)) (.cells ⟨c'.take (o' + k * j.size) ++ new' ++ c'.drop (o' + k * j.size + new'.length)⟩ T fr) := by
                               refine ORel.cells (l := l') ?_ ?_ (ones_append oold r4) h7 (hres.mono g) (fun t ht => h9 t (by rw [hes]; exact (sameT_some ht).2)) (fun h => by cases h)
                               · rw [List.length_append, List.length_append, List.length_take, List.length_drop, Nat.min_eq_left (by omega)]; show _ = l.sz; omega
                               · show o' + _ ≤ l.sz; rw [List.length_append, p2', r2]; omega
                              exact hO)
                          refine ⟨.slice (some ⟨l.g, o', none⟩) (k + lenOf x) cap, w', _, .inl ?_, ?_, hgo⟩
                          · rw [Sem.run_bind, run_app_room (w' := w') hat hat2 (hu w) (hu2 w) c1 (hT.sizeOf w) rl rn hroom (by intro a ha; injection ha with ha; subst ha; rw [add_lit]; exact hst) (by simp), Result.andThen_ok]
                            rfl
                          · rw [e1]
                            exact VRel.slice (l := l') (o := 0) (more_same ρ st.n l') hroom (by show o' + cap * j.size ≤ l.sz; exact k2) (.inr rfl) (.inl rfl)
                        · have hk2 := goes_kill (n := st.n) hh (h' := getR (putR st.h i none)) (i := i) (fun q => getR_putR _ _ _ z2 q)
                          have hofc : (Builtin.firstCells j.size k (.slice (some ⟨l.g, o', none⟩) k cap)).run E.P w.drew = .ok ⟨(c'.drop o').take (k * j.size)⟩ w.drew := by
                            rcases hold'.2 with hk0 | hk0
                            · subst hk0; simp [Builtin.firstCells, loadCells, loadCellsFrom]
                            · simp only [Builtin.firstCells]; exact load_cells (w := w.drew) h3 hk0
                          obtain ⟨nc, q1, q2⟩ := run_app_grow (type := type) hat hat2 (hu w) (hu2 w) c1 (hT.sizeOf w) rl hi1 hz hroom hkk c6 (by omega) hb0 hofc rnd
                          obtain ⟨ρ', g1, g2⟩ := grown (z := j.size) (k := k) (m := lenOf x) (e := e) hk2.rel hbig hfn hzl (es := ⟨j.size, sameT es.t e, false⟩) rfl (fun _ h => (sameT_some h).1.symm) rfl hold'.1 rvd p2' r2 oold r4 q1
                          refine ⟨_, _, ρ', .inl (by rw [Sem.run_bind, q2, Result.andThen_ok]; rfl), ?_, hk2.trans g2⟩
                          rw [e1]
                          exact g1
                    · cases he
                  · cases he
                · split at he
                  · rename_i fz es c hob
                    rw [cond_eq_ite] at he
                    split at he
                    · rename_i hcond
                      simp only [Bool.and_eq_true, beq_iff, blt_iff, ble_iff, decide_eq_true_eq, lenR_eq] at hcond
                      obtain ⟨⟨⟨⟨z1, z2⟩, z3⟩, z4⟩, z5⟩ := hcond
                      have z3' : fz ≤ o + k * j.size := z3
                      split at he
                      · rename_i old hold
                        obtain ⟨l, o'', h1, h2, h3⟩ := hh.at_ i _ hob
                        have hes : l.es = es := by cases h3; rfl
                        cases h3 with
                        | froz h4 h5 h6 h7 h8 h9 =>
                        rename_i c' T fr
                        cases hs with
                        | slice hi k1 k2 k3 k4 =>
                        rename_i o' cap l2
                        rw [h1] at hi; injection hi with hi; subst hi
                        have hne : getR st.h i ≠ none := by rw [hob]; simp
                        obtain ⟨p1, p2, p3⟩ := cut_eq _ _ _ _ hold
                        have p2' : old.length = k * j.size := p2
                        have oold : ones old = true := by rw [p1]; exact ones_take _ (ones_drop _ h6)
                        have hkk : k ≤ 1000000 := c5
                        rw [z1] at k2
                        have ho : o' = l.sh + o := by rcases k3 with k3 | k3; · omega
                                                      · exact k3
                        subst ho
                        obtain ⟨s1, s2⟩ := cut_rel h8 (by omega) hold
                        have s2' : l.sh + o + k * j.size ≤ c'.length := s2
                        have hold' : VRels ρ old ((c'.drop (l.sh + o)).take (k * j.size)) := s1
                        obtain ⟨hbig, rfl, rfl, rfl⟩ := fresh_parts he
                        have hfn : ρ st.n = none := hf st.n (Nat.le_refl _) (Nat.lt_succ_self _)
                        have e1 : Nat.add k (Nat.div (lenR new) j.size) = k + lenOf x := by
                          have : Nat.div (lenR new) j.size = lenOf x := by rw [lenR_eq, r2]; exact Nat.mul_div_cancel _ (by omega)
                          rw [this]; rfl
                        by_cases hroom : k + lenOf x ≤ cap
                        · have hfit : l.sh + o + (k * j.size + lenOf x * j.size) ≤ c'.length := by
                            have : (k + lenOf x) * j.size ≤ cap * j.size := Nat.mul_le_mul_right _ hroom
                            rw [Nat.add_mul] at this
                            omega
                          obtain ⟨w', hst, hch⟩ := run_storeCells (P := E.P) l.g (l.sh + o + k * j.size) T fr new' 0 c' w h2 (by rw [lnew]; omega) (fun q hq1 hq2 hq3 => by
                            rw [lnew] at hq2
                            have := h7 q (by omega) hq3.1 hq3.2
                            omega) o2'
                          simp only [Nat.add_zero] at hch
                          let l' : Loc := ⟨l.g, l.sh + o, l.sz, ⟨j.size, sameT l.es.t e, false⟩⟩
                          have hres : VRels ρ (old ++ new) (((c'.take (l.sh + o + k * j.size) ++ new' ++ c'.drop (l.sh + o + k * j.size + new'.length)).drop (l.sh + o)).take (old ++ new).length) := by
                            have e2 : ((c'.take (l.sh + o + k * j.size) ++ new' ++ c'.drop (l.sh + o + k * j.size + new'.length)).drop (l.sh + o)).take (old ++ new).length = (c'.drop (l.sh + o)).take (k * j.size) ++ new' := by
                              have hl2 : (old ++ new).length = k * j.size + new'.length := by rw [List.length_append, p2', rv.length]
                              rw [hl2]
                              apply List.ext_getElem?
                              intro q
                              simp only [List.getElem?_take, List.getElem?_drop, List.getElem?_append, List.length_append, List.length_take, List.length_drop]
                              repeat' split
                              all_goals first | rfl | omega | (congr 1; omega) | (rw [List.getElem?_eq_none (by omega)])
                            rw [e2]
                            exact hold'.append rv
                          have hgo := goes_move (h' := getR (putR (putR st.h i none) st.n (some (.froz (k * j.size) ⟨j.size, sameT l.es.t e, false⟩ (old ++ new))))) hh (n := st.n) (l' := l') hne h1 hfn rfl (.froz (k * j.size) ⟨j.size, sameT l.es.t e, false⟩ (old ++ new)) _ (fun q => by
                              rw [getR_putR _ _ _ hbig, getR_putR _ _ _ z2]) hch (by
                              have g := grows_more (l := l') hfn
                              have hO : ORel (more ρ st.n l') l' (.froz (k * j.size) l'.es (old ++ new)) (.cells ⟨c'.take (l.sh + o + k * j.size) ++ new' ++ c'.drop (l.sh + o + k * j.size + new'.length)⟩ T fr) := by
                               refine ORel.froz (l := l') ?_ ?_ (ones_append oold r4) (fun q a1 a2 a3 => ?_) (hres.mono g) (fun t ht => ⟨(h9 t (sameT_some ht).2).1, (h9 t (sameT_some ht).2).2.imp id (fun q => by show fr.2 ≤ l.sh + o + k * j.size; omega)⟩)
                               · rw [List.length_append, List.length_append, List.length_take, List.length_drop, Nat.min_eq_left (by omega)]; show _ = l.sz; omega
                               · show l.sh + o + _ ≤ l.sz; rw [List.length_append, p2', r2]; omega
                               · have := h7 q a1 a2 a3
                                 show q < l.sh + o + k * j.size
                                 omega
                              exact hO)
                          refine ⟨.slice (some ⟨l.g, l.sh + o, none⟩) (k + lenOf x) cap, w', _, .inl ?_, ?_, hgo⟩
                          · rw [Sem.run_bind, run_app_room (w' := w') hat hat2 (hu w) (hu2 w) c1 (hT.sizeOf w) rl rn hroom (by intro a ha; injection ha with ha; subst ha; rw [add_lit]; exact hst) (by simp), Result.andThen_ok]
                            rfl
                          · rw [e1]
                            exact VRel.slice (l := l') (o := 0) (more_same ρ st.n l') hroom (by show l.sh + o + cap * j.size ≤ l.sz; exact k2) (.inr rfl) (.inl rfl)
                        · have hk2 := goes_kill (n := st.n) hh (h' := getR (putR st.h i none)) (i := i) (fun q => getR_putR _ _ _ z2 q)
                          have hofc : (Builtin.firstCells j.size k (.slice (some ⟨l.g, l.sh + o, none⟩) k cap)).run E.P w.drew = .ok ⟨(c'.drop (l.sh + o)).take (k * j.size)⟩ w.drew := by
                            simp only [Builtin.firstCells]; exact load_cells (w := w.drew) h2 s2'
                          obtain ⟨nc, q1, q2⟩ := run_app_grow (type := type) hat hat2 (hu w) (hu2 w) c1 (hT.sizeOf w) rl hi1 hz hroom hkk c6 (by omega) hb0 hofc rnd
                          obtain ⟨ρ', g1, g2⟩ := grownF (k * j.size) (z := j.size) (k := k) (m := lenOf x) (e := e) hk2.rel hbig hfn hzl (es := ⟨j.size, sameT l.es.t e, false⟩) rfl (fun _ h => (sameT_some h).1.symm) rfl hold' rvd p2' r2 oold r4 q1
                          refine ⟨_, _, ρ', .inl (by rw [Sem.run_bind, q2, Result.andThen_ok]; rfl), ?_, hk2.trans g2⟩
                          rw [e1]
                          exact g1
                      · cases he
                    · cases he
                  · cases he
              · cases he
            · cases he
          · cases he
        · cases he
      · cases he
    · cases he
  · cases he

end
end Go.Ev
end

section
/- A ground evaluator for closed calls, part Lz: zeros appended to no slice. -/
namespace Go.Ev
open Go.RowKit

section
variable {E : Env} {ρ : Ren} {st : St} {tm : Array Value} {w : World} {v : Value} {h' : Tr RO} {n' : Nat}

theorem run_app_zeros {P : Program} {argTypes : Array TypeId} {type t t2 e : TypeId} {d2 : TypeDesc} {z n : Nat} {zv : Value} {j : TypeInfo} (hat : argTypes[0]? = some t) (hat2 : argTypes[1]? = some t2)
    (hu : (underlying t).run P w = .ok (.slice e) w) (hu2 : (underlying t2).run P w = .ok d2 w) (hni : notInt d2 = false) (hsz : (sizeOf e).run P w = .ok z w)
    (hj : ∀ w, (typeInfo e).run P w = .ok j w) (hz : ∀ w, (zeroValue e).run P w = .ok zv w) (h1 : 1 ≤ n) (hm : n ≤ 1000000) (hz1 : 1 ≤ z) (hb : j.bytes ≤ 4096) (_hb1 : j.bytes ≠ 0) :
    ∃ nc, 0 + n ≤ nc ∧ (Builtin.append_ argTypes type ⟨[.slice none 0 0, .int .i64 (.ofNat n)]⟩).run P w =
      .ok (.slice (some ⟨w.heap.size, 0, none⟩) (0 + n) nc) (w.drew.alloc (.cells (⟨[]⟩ ++ (Builtin.zeroCells zv.cells n ++ Builtin.zeroCells zv.cells (nc - (0 + n)))) e)) := by
  have e1 : (⟨[.slice none 0 0, .int .i64 (.ofNat n)]⟩ : Array Value)[0]? = some (.slice none 0 0) := rfl
  have e2 : (⟨[.slice none 0 0, .int .i64 (.ofNat n)]⟩ : Array Value)[1]? = some (.int .i64 (.ofNat n)) := rfl
  refine ⟨(Question.appendCap (0 + n) 0 e).cut (w.tape w.drawn (.appendCap (0 + n) 0 e)), by simp [Question.cut], ?_⟩
  have hcap := nextcap_le (need := 0 + n) (cap := 0) (by omega) (by omega)
  have hmul : Builtin.nextslicecap (0 + n) 0 * j.bytes ≤ 40000000 * 4096 := Nat.mul_le_mul hcap hb
  have h48 : ¬ (281474976710656 < Builtin.nextslicecap (0 + n) 0 * j.bytes) := by omega
  have hw := wrap_nat (c := n) (by omega)
  have hint : (asInt (.int .i64 (n : Int))).run P w = .ok (n : Int) w := by simp [asInt, asIntOf]
  have c1 : ¬ ((n : Int) < 0) := by omega
  have hnb : n * j.bytes ≤ 1000000 * 4096 := Nat.mul_le_mul hm hb
  have c2 : ¬ ((n : Int) * (j.bytes : Int) > 2 ^ 48) := by
    have : (n : Int) * (j.bytes : Int) = ((n * j.bytes : Nat) : Int) := by rw [Int.natCast_mul]
    rw [this]; omega
  have c3 : ¬ (n * z = 0) := by
    intro h
    rcases Nat.mul_eq_zero.1 h with h | h <;> omega
  have c4 : ¬ (0 + n ≤ 0) := by omega
  have c5 : ¬ (((0 + n : Nat) : Int) > IntKind.i64.max) := by
    have : IntKind.i64.max = 9223372036854775807 := by decide
    rw [this]; omega
  unfold Builtin.append_
  simp only [hat, e1, e2, Sem.run_bind, hu, Result.andThen_ok, hsz, hat2, hu2, Sem.run_pure]
  cases d2 <;> simp [notInt] at hni
  have d2 : ¬ (281474976710656 < (n : Int) * (j.bytes : Int)) := c2
  have d5 : ¬ ((9223372036854775807 : Int) < max (n : Int) 0) := by omega
  have d1 : ¬ ((n : Int) ≤ 0) := by omega
  have d6 : ¬ n = 0 := by omega
  have d7 : ¬ z = 0 := by omega
  have d8 : ¬ ((9223372036854775807 : Int) < (n : Int)) := by omega
  have d9 : ¬ (281474976710656 < Builtin.nextslicecap n 0 * j.bytes) := by rw [Nat.zero_add] at h48; exact h48
  simp [hint, hw, c1, d2, d6, d8, d9, c3, hj, hz, Question.forced, run_newRow, Builtin.firstCells]

theorem appendZ_does (ok : EnvOK E) (hh : HRel ρ (getR st.h) w) (hf : Fresh ρ st.n n') {argTypes : Array TypeId} {type : TypeId} {args args' : List Value} (ha : VRels ρ args args') (he : opAppendZ E st argTypes.toList args = some (.val v h' n')) :
    Does E.P ρ st.h st.n w (do pure (.value (← Builtin.append_ argTypes type ⟨args'⟩))) v h' n' := by
  unfold opAppendZ at he
  split at he
  · rename_i t t2 a b n ht
    have hat : argTypes[0]? = some t := by rw [← Array.getElem?_toList, ht]; rfl
    have hat2 : argTypes[1]? = some t2 := by rw [← Array.getElem?_toList, ht]; rfl
    cases ha with
    | cons hs hr =>
    cases hr with
    | cons hx hr2 =>
    cases hr2
    cases hs
    cases hx
    split at he
    · rename_i d d2 hd hd2
      have hu := fun w => (ok.ti hd).underlying (w := w)
      have hu2 := fun w => (ok.ti hd2).underlying (w := w)
      split at he
      · rename_i e hde
        rw [hde] at hu
        split at he
        · rename_i j hj
          have hT := ok.ti hj
          obtain ⟨ij, hi1, hi2, hi3⟩ := hT.typeBytes
          obtain ⟨zv, hz, hzc, _⟩ := hT.zeroValue
          have hzl : zv.cells.toList.length = j.size := by rw [hzc, hT.len]
          rw [cond_eq_ite] at he
          split at he
          · rename_i hc
            simp only [Bool.and_eq_true, ble_iff, decide_eq_true_eq, Bool.not_eq_true'] at hc
            obtain ⟨⟨⟨⟨⟨c1, c2⟩, c3⟩, c4⟩, c5⟩, c6⟩ := hc
            obtain ⟨hbig, rfl, rfl, rfl⟩ := fresh_parts he
            have hfn : ρ st.n = none := hf st.n (Nat.le_refl _) (Nat.lt_succ_self _)
            obtain ⟨nc, q1, q2⟩ := run_app_zeros (type := type) hat hat2 (hu w) (hu2 w) c1 (hT.sizeOf w) hi1 hz c5 c6 c2 (by omega) (by omega)
            have hzs : Builtin.zeroCells zv.cells n = ⟨rep j.zero n⟩ := by
              have e0 : zv.cells = ⟨j.zero⟩ := by rw [← hzc]
              unfold Builtin.zeroCells
              rw [e0]
              exact zeros_eq j.zero n
            rw [hzs] at q2
            obtain ⟨ρ', g1, g2⟩ := grown (z := j.size) (k := 0) (m := n) (e := e) (old := []) (old' := []) (new := rep j.zero n) (new' := rep j.zero n) hh hbig hfn hzl (es := ⟨j.size, some e, false⟩) rfl (fun _ h => by injection h) rfl .nil (VRels.of_flats (flats_rep hT.flats n)) (by simp) (by rw [rep_length, hT.len]) rfl (ones_rep hT.ones n) q1
            refine ⟨_, _, ρ', .inl (by rw [Sem.run_bind, q2, Result.andThen_ok]; rfl), ?_, g2⟩
            have := g1
            rw [Nat.zero_add] at this
            rw [Nat.zero_add]
            exact this
          · cases he
        · cases he
      · cases he
    · cases he
  · cases he

theorem append2_does (ok : EnvOK E) (hh : HRel ρ (getR st.h) w) (hf : Fresh ρ st.n n') {argTypes : Array TypeId} {type : TypeId} {args args' : List Value} (ha : VRels ρ args args') (he : opAppend2 E st argTypes.toList args = some (.val v h' n')) :
    Does E.P ρ st.h st.n w (do pure (.value (← Builtin.append_ argTypes type ⟨args'⟩))) v h' n' := by
  unfold opAppend2 at he
  split at he
  · rename_i r hr
    injection he with he
    subst he
    exact append_does ok hh hf ha hr
  · exact appendZ_does ok hh hf ha he

end
end Go.Ev
end

