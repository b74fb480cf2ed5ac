/- A ground evaluator for closed calls, part I: indexes, literals, lengths. -/
import Derived.Test.YtggcnnpklkmeoaaGreatDoorEE
import GoSem.Instr.Build
section
namespace Go.Ev
open Go.RowKit

section
variable {E : Env} {ρ : Ren} {st : St} {tm : Array Value} {w : World} {v : Value} {h' : Tr RO} {n' : Nat}

theorem indexAddr_does (ok : EnvOK E) (hb : Base E ρ st.n) (hs : SRel ρ st.σ tm) (hh : HRel ρ (getR st.h) w) {t : TypeId} {x ix : Operand} (he : opIndexAddr E st t x ix = some (.val v h' n')) :
    Does E.P ρ st.h st.n w (do pure (.value (← Instr.indexAt t (evalT tm x) (evalT tm ix)))) v h' n' := by
  unfold opIndexAddr at he
  split at he
  · rename_i i o kd k d hx hix hd
    have hT := ok.ti hd
    split at he
    · rename_i n e hn
      split at he
      · rename_i j hj
        have hJ := ok.ti hj
        rw [cond_eq_ite, blt_iff] at he
        split at he
        · rename_i hlt
          rw [decide_eq_true_eq] at hlt
          injection he with he; injection he with e1 e2 e3
          subst e1; subst e2; subst e3
          have hr := opnd_rel hb hs hx
          have hri := opnd_rel hb hs hix
          rw [VRel.eq_of_flat rfl hri]
          generalize hv : evalT tm x = a at hr
          cases hr with
          | ptr hi =>
            rename_i l
            refine does_pure hh (v' := .pointer (some ⟨l.g, l.sh + (o + k * j.size), none⟩)) ?_ (.ptr hi)
            have hu2 := hT.underlying (w := w)
            rw [hn] at hu2
            have c1 : (0 : Int) ≤ Int.ofNat k ∧ Int.ofNat k < (n : Int) := ⟨Int.natCast_nonneg k, by simpa using hlt⟩
            simp only [Instr.indexAt, asIntOf, Sem.run_bind, Sem.run_pure, Result.andThen_ok, hu2, Instr.sureAddr, Int.toNat_natCast, Int.ofNat_eq_natCast, add_lit, Nat.add_assoc]
            rw [if_pos (by simpa using c1)]
            simp [hJ.sizeOf]
        · cases he
      · cases he
    · cases he
  · rename_i i o n cc kd k d hx hix hd
    have hT := ok.ti hd
    split at he
    · rename_i e hn
      split at he
      · rename_i j hj
        have hJ := ok.ti hj
        rw [cond_eq_ite, blt_iff] at he
        split at he
        · rename_i hlt
          rw [decide_eq_true_eq] at hlt
          injection he with he; injection he with e1 e2 e3
          subst e1; subst e2; subst e3
          have hr := opnd_rel hb hs hx
          have hri := opnd_rel hb hs hix
          rw [VRel.eq_of_flat rfl hri]
          generalize hv : evalT tm x = a at hr
          cases hr with
          | slice hi h1 h2 h3 h4 =>
            rename_i o' c l
            have h3' : o' = l.sh + o := by rcases h3 with h3 | h3; · omega
                                           · exact h3
            subst h3'
            refine does_pure hh (v' := .pointer (some ⟨l.g, l.sh + (o + k * j.size), none⟩)) ?_ (.ptr hi)
            have hu2 := hT.underlying (w := w)
            rw [hn] at hu2
            have c1 : (0 : Int) ≤ Int.ofNat k ∧ Int.ofNat k < (n : Int) := ⟨Int.natCast_nonneg k, by simpa using hlt⟩
            simp only [Instr.indexAt, asIntOf, Sem.run_bind, Sem.run_pure, Result.andThen_ok, hu2, Int.toNat_natCast, Int.ofNat_eq_natCast, add_lit, Nat.add_assoc]
            rw [if_pos (by simpa using c1)]
            simp [hJ.sizeOf]
        · cases he
      · cases he
    · cases he
  · cases he

theorem index_does (ok : EnvOK E) (hb : Base E ρ st.n) (hs : SRel ρ st.σ tm) (hh : HRel ρ (getR st.h) w) {t : TypeId} {x ix : Operand} (he : opIndex E st t x ix = some (.val v h' n')) :
    Does E.P ρ st.h st.n w (do pure (.value (← Instr.index t (evalT tm x) (evalT tm ix)))) v h' n' := by
  unfold opIndex at he
  split at he
  · rename_i s kd k d hx hix hd
    have hT := ok.ti hd
    split at he
    · rename_i hn
      split at he
      · rename_i u hu
        injection he with he; injection he with e1 e2 e3
        subst e1; subst e2; subst e3
        have hr := opnd_rel hb hs hx
        have hri := opnd_rel hb hs hix
        rw [VRel.eq_of_flat rfl hri, VRel.eq_of_flat rfl hr]
        unfold byteAt at hu
        split at hu
        · rename_i b hbt
          injection hu with hu; subst hu
          rw [nth_eq] at hbt
          have hu2 := hT.underlying (w := w)
          rw [hn] at hu2
          have hs2 : s[k]? = some b := by
            obtain ⟨q1, q2⟩ := List.getElem?_eq_some_iff.1 hbt
            rw [getElem?_pos s k (by simpa using q1)]
            congr 1
          refine does_pure hh (v' := .int .u8 (.ofNat b.toNat)) ?_ (.int _ _)
          simp [Instr.index, asIntOf, hu2, hs2]
        · cases hu
      · cases he
    · cases he
  · rename_i cs kd k d hx hix hd
    have hT := ok.ti hd
    split at he
    · rename_i n e hn
      rw [cond_eq_ite, blt_iff] at he
      split at he
      · rename_i hlt
        rw [decide_eq_true_eq] at hlt
        split at he
        · rename_i u hu
          injection he with he; injection he with e1 e2 e3
          subst e1; subst e2; subst e3
          have hr := opnd_rel hb hs hx
          have hri := opnd_rel hb hs hix
          rw [VRel.eq_of_flat rfl hri]
          generalize hv : evalT tm x = a at hr
          cases hr with
          | agg hcs =>
            obtain ⟨u', k1, k2⟩ := part_does ok hcs hu
            refine does_pure hh (v' := u') ?_ k2
            have hu2 := hT.underlying (w := w)
            rw [hn] at hu2
            have hsz : (sizeOf e).run E.P w = .ok d.inner w := by
              rcases hT.inner with ⟨n2, e2, j, q1, q2, q3⟩ | ⟨q1, _⟩
              · rw [hn] at q1; injection q1 with _ q1; subst q1
                simp [Go.sizeOf, typeInfo, program, q2, q3, Sem.run]
              · exact absurd hn (q1 _ _)
            have c1 : (0 : Int) ≤ (k : Int) ∧ (k : Int) < (n : Int) := ⟨Int.natCast_nonneg k, by simpa using hlt⟩
            simp only [Instr.index, asIntOf, Sem.run_bind, Sem.run_pure, Result.andThen_ok, hu2, Int.ofNat_eq_natCast]
            rw [if_pos c1]
            have k1' : ∀ w, (part e ⟨_⟩ (k * d.inner)).run E.P w = .ok u' w := k1
            simp only [Sem.run_bind, hsz, Result.andThen_ok, Int.toNat_natCast, k1']
        · cases he
      · cases he
    · cases he
  · cases he

theorem zip_fill {place : Nat} : ∀ (vs : List Value) (k : Nat) (cs : List Value), place + k + vs.length ≤ cs.length →
    ((vs.zipIdx k).foldl (fun (a : List Value) (p : Value × Nat) => a.set (place + p.2) p.1) cs) = cs.take (place + k) ++ vs ++ cs.drop (place + k + vs.length)
  | [], k, cs, _ => by simp
  | u :: us, k, cs, h => by
    simp only [List.zipIdx_cons, List.foldl_cons]
    rw [zip_fill us (k + 1) (cs.set (place + k) u) (by simp at h ⊢; omega)]
    have hi : place + k < cs.length := by simp at h; omega
    have e1 : (cs.set (place + k) u).take (place + (k + 1)) = cs.take (place + k) ++ [u] := by
      rw [← Nat.add_assoc, List.take_succ_eq_append_getElem (by simpa using hi)]
      simp [List.take_set_of_le]
    have e2 : (cs.set (place + k) u).drop (place + (k + 1) + us.length) = cs.drop (place + (k + 1) + us.length) := List.drop_set_of_lt (by omega)
    rw [e1, e2]
    simp [Nat.add_assoc, Nat.add_comm 1]

theorem fold_arr (place : Nat) (vs : Array Value) (cs : List Value) :
    (vs.zipIdx.foldl (fun (a : Array Value) (p : Value × Nat) => a.setIfInBounds (place + p.2) p.1) ⟨cs⟩).toList = (vs.toList.zipIdx.foldl (fun (a : List Value) (p : Value × Nat) => a.set (place + p.2) p.1) cs) := by
  rw [← Array.foldl_toList, Array.toList_zipIdx]
  generalize vs.toList.zipIdx = l
  induction l generalizing cs with
  | nil => rfl
  | cons p l ih =>
    simp only [List.foldl_cons]
    have : (⟨cs⟩ : Array Value).setIfInBounds (place + p.2) p.1 = ⟨cs.set (place + p.2) p.1⟩ := Array.ext' (by simp)
    rw [this, ih]

inductive PRels (ρ : Ren) : List (Nat × Value) → List (Nat × Value) → Prop
  | nil : PRels ρ [] []
  | cons {i : Nat} {v v' : Value} {l l' : List (Nat × Value)} (h : VRel ρ v v') (hs : PRels ρ l l') : PRels ρ ((i, v) :: l) ((i, v') :: l')

theorem parts_rel (hb : Base E ρ n') (hs : SRel ρ st.σ tm) : ∀ {l : List (Nat × Operand)} {ps : List (Nat × Value)}, partsOf E st.σ l = some ps → PRels ρ ps (l.map fun p => (p.1, evalT tm p.2))
  | [], ps, h => by injection h with h; subst h; exact .nil
  | (i, x) :: l, ps, h => by
    have h' : (match opnd E st.σ x with | some v => consO (i, v) (partsOf E st.σ l) | none => none) = some ps := h
    split at h'
    · rename_i u hu
      obtain ⟨r, hr, rfl⟩ := consO_some h'
      exact .cons (opnd_rel hb hs hu) (parts_rel hb hs hr)
    · cases h'

theorem fills_cons (place : Nat → Option (Nat × Nat)) (p : Nat × Value) (l : List (Nat × Value)) (cs : List Value) :
    fills place (p :: l) cs = (match place p.1 with
      | none => none
      | some (o, n) => bif Nat.beq (lenR p.2.cells.toList) n then (match lay cs o p.2.cells.toList with | some cs' => fills place l cs' | none => none) else none) := rfl

theorem fill_rel {place : Nat → Option (Nat × Nat)} : ∀ {ps ps' : List (Nat × Value)} {cs cs' r : List Value}, PRels ρ ps ps' → VRels ρ cs cs' → fills place ps cs = some r →
    ∃ r', Instr.fill place ⟨cs'⟩ ps' = some ⟨r'⟩ ∧ VRels ρ r r' ∧ r.length = cs.length
  | _, _, cs, cs', r, .nil, hc, h => by injection h with h; subst h; exact ⟨cs', rfl, hc, rfl⟩
  | _, _, cs, cs', r, .cons (i := i) (v := u) (v' := u') (l := l) hv hl, hc, h => by
    rw [fills_cons] at h
    split at h
    · cases h
    · rename_i o m hp
      rw [cond_eq_ite, beq_iff, lenR_eq] at h
      split at h
      · rename_i hm
        rw [decide_eq_true_eq] at hm
        split at h
        · rename_i cs2 hlay
          obtain ⟨k1, k2⟩ := lay_eq _ _ _ _ hlay
          have hcl := hc.length
          have hvl := hv.cells.length
          have hrel : VRels ρ cs2 (cs'.take o ++ u'.cells.toList ++ cs'.drop (o + u'.cells.toList.length)) := by
            rw [k1, ← hvl]; exact ((hc.take o).append hv.cells).append (hc.drop _)
          obtain ⟨r', q1, q2, q3⟩ := fill_rel hl hrel h
          refine ⟨r', ?_, q2, by rw [q3, k1]; simp; simp at k2; omega⟩
          have hsz : u'.cells.size = m := by rw [← Array.length_toList, ← hvl, hm]
          have hb2 : o + u'.cells.size ≤ cs'.length := by rw [← hcl, hsz, ← hm]; exact k2
          simp only [Instr.fill, hp]
          rw [if_neg (by simp [hsz]; rw [← hsz]; exact hb2)]
          have e : u'.cells.zipIdx.foldl (fun cs (x : Value × Nat) => match x with | (c, j) => cs.setIfInBounds (o + j) c) (⟨cs'⟩ : Array Value) = ⟨cs'.take o ++ u'.cells.toList ++ cs'.drop (o + u'.cells.toList.length)⟩ := by
            apply Array.ext'
            have := fold_arr o u'.cells cs'
            rw [zip_fill u'.cells.toList 0 cs' (by simpa using hb2)] at this
            simpa using this
          rw [e]
          exact q1
        · cases h
      · cases h

end
end Go.Ev
end

section
/- A ground evaluator for closed calls, part J: literals, new slices, lengths. -/
namespace Go.Ev
open Go.RowKit

section
variable {E : Env} {ρ : Ren} {st : St} {tm : Array Value} {w : World} {v : Value} {h' : Tr RO} {n' : Nat}

theorem places_run (ok : EnvOK E) : ∀ {fs : List Field} {l : List (Nat × Nat)}, placesOf E fs = some l →
    ∀ w, (fs.mapM (fun f => do pure (f.offset, ← sizeOf f.type)) : Sem (List (Nat × Nat))).run E.P w = .ok l w
  | [], l, h, w => by injection h with h; subst h; rfl
  | f :: fs, l, h, w => by
    have h' : (match ti E f.type with | some j => consO (f.offset, j.size) (placesOf E fs) | none => none) = some l := h
    split at h'
    · rename_i j hj
      obtain ⟨r, hr, rfl⟩ := consO_some h'
      simp only [List.mapM_cons, Sem.run_bind, (ok.ti hj).sizeOf, Result.andThen_ok, Sem.run_pure, places_run ok hr]
    · cases h'

theorem build_does (ok : EnvOK E) (hb : Base E ρ st.n) (hs : SRel ρ st.σ tm) (hh : HRel ρ (getR st.h) w) {t : TypeId} {parts : Array (Nat × Operand)} (he : opBuild E st t parts = some (.val v h' n')) :
    Does E.P ρ st.h st.n w (do pure (.value (← Instr.build t (parts.map fun (i, x) => (i, evalT tm x))))) v h' n' := by
  have hpl : (parts.map fun (x : Nat × Operand) => (x.1, evalT tm x.2)).toList = parts.toList.map fun p => (p.1, evalT tm p.2) := by simp
  unfold opBuild at he
  split at he
  · rename_i i ps hi hps
    have hT := ok.ti hi
    have hr := parts_rel hb hs hps
    obtain ⟨z, hz, hzc, _⟩ := hT.zeroValue
    have hz2 : z.cells = ⟨i.zero⟩ := by rw [← hzc]
    have hu := hT.underlying (w := w)
    split at he
    · rename_i fs hfs
      rw [hfs] at hu
      split at he
      · rename_i l hl
        split at he
        · rename_i cs hcs
          injection he with he; injection he with e1 e2 e3
          subst e1; subst e2; subst e3
          obtain ⟨r', q1, q2, _⟩ := fill_rel hr (VRels.of_flats hT.flats) hcs
          refine does_pure hh (v' := .agg ⟨r'⟩) ?_ (.agg q2)
          have hm : (fs.mapM (fun f => do pure (f.offset, ← sizeOf f.type)) : Sem (Array (Nat × Nat))).run E.P w = .ok l.toArray w := by
            rw [Array.mapM_eq_mapM_toList, Sem.run_map, places_run ok hl w]; rfl
          have hnth : (fun k => (l.toArray)[k]?) = nth l := by funext k; rw [nth_eq]; simp
          simp only [Instr.build, Sem.run_bind, hz, Result.andThen_ok, hu, hm, hpl, hz2, hnth, q1, Sem.run_pure]
        · cases he
      · cases he
    · rename_i n e hn
      rw [hn] at hu
      split at he
      · rename_i cs hcs
        injection he with he; injection he with e1 e2 e3
        subst e1; subst e2; subst e3
        obtain ⟨r', q1, q2, _⟩ := fill_rel hr (VRels.of_flats hT.flats) hcs
        refine does_pure hh (v' := .agg ⟨r'⟩) ?_ (.agg q2)
        have hsz : (sizeOf e).run E.P w = .ok i.inner w := by
          rcases hT.inner with ⟨n2, e2, j, q1, q2, q3⟩ | ⟨q1, _⟩
          · rw [hn] at q1; injection q1 with _ q1; subst q1
            simp [Go.sizeOf, typeInfo, program, q2, q3, Sem.run]
          · exact absurd hn (q1 _ _)
        have q1' : Instr.fill (fun k => some (k * i.inner, i.inner)) ⟨i.zero⟩ (parts.toList.map fun p => (p.1, evalT tm p.2)) = some ⟨r'⟩ := q1
        simp only [Instr.build, Sem.run_bind, hz, Result.andThen_ok, hu, hsz, hpl, hz2, q1', Sem.run_pure]
      · cases he
    · cases he
  · cases he

theorem rep_succ {α : Type} (xs : List α) (n : Nat) : rep xs (n + 1) = xs ++ rep xs n := rfl

theorem rep_length {α : Type} (xs : List α) : ∀ n, (rep xs n).length = n * xs.length
  | 0 => by show ([] : List α).length = _; simp
  | n + 1 => by rw [rep_succ, List.length_append, rep_length xs n, Nat.add_mul]; omega

theorem rep_get {α : Type} (xs : List α) (hx : 0 < xs.length) : ∀ n k, k < n * xs.length → (rep xs n)[k]? = xs[k % xs.length]?
  | 0, k, h => by simp at h
  | n + 1, k, h => by
    rw [rep_succ, List.getElem?_append]
    split
    · rename_i hk; rw [Nat.mod_eq_of_lt hk]
    · rename_i hk
      have e : (n + 1) * xs.length = n * xs.length + xs.length := by rw [Nat.add_mul, Nat.one_mul]
      rw [rep_get xs hx n (k - xs.length) (by omega), ← Nat.mod_eq_sub_mod (by omega)]

theorem zeros_eq (z : List Value) (n : Nat) : (Array.range (n * z.length)).map (fun i => (⟨z⟩ : Array Value)[i % (⟨z⟩ : Array Value).size]!) = ⟨rep z n⟩ := by
  apply Array.ext'
  apply List.ext_getElem?
  intro k
  simp only [Array.toList_map, Array.toList_range, List.getElem?_map]
  by_cases hk : k < n * z.length
  · have hz : 0 < z.length := by rcases Nat.eq_zero_or_pos z.length with h | h; · rw [h] at hk; simp at hk
                                 · exact h
    rw [rep_get z hz n k hk, List.getElem?_range hk]
    have hm : k % z.length < z.length := Nat.mod_lt _ hz
    simp [hm]
  · rw [List.getElem?_eq_none (by simpa using hk), List.getElem?_eq_none (by rw [rep_length]; omega)]
    rfl

theorem flats_append : ∀ {a b : List Value}, flats a = true → flats b = true → flats (a ++ b) = true
  | [], _, _, hb => hb
  | x :: xs, b, ha, hb => by
    simp only [flats, Bool.and_eq_true] at ha
    simp only [List.cons_append, flats, Bool.and_eq_true]
    exact ⟨ha.1, flats_append ha.2 hb⟩

theorem flats_rep {z : List Value} (h : flats z = true) : ∀ n, flats (rep z n) = true
  | 0 => rfl
  | n + 1 => flats_append h (flats_rep h n)

theorem ones_rep {z : List Value} (h : ones z = true) : ∀ n, ones (rep z n) = true
  | 0 => rfl
  | n + 1 => ones_append h (ones_rep h n)

/-- A slice of all of a new row. -/
theorem vrel_slice {ρ : Ren} {n _m k c : Nat} {l : Loc} (h : ρ n = some l) (hsh : l.sh = 0) (hk : k ≤ c) (hc : c * l.es.n ≤ l.sz) : VRel ρ (.slice (some ⟨n, 0, none⟩) k k) (.slice (some ⟨l.g, 0, none⟩) k c) := by
  exact VRel.slice (o := 0) (o' := 0) h hk (by simpa using hc) (.inr (by rw [hsh])) (.inl rfl)

theorem buildSlice_does (ok : EnvOK E) (hb : Base E ρ st.n) (hs : SRel ρ st.σ tm) (hh : HRel ρ (getR st.h) w) (hf : Fresh ρ st.n n') {t : TypeId} {len : Nat} {parts : Array (Nat × Operand)} (he : opBuildSlice E st t len parts = some (.val v h' n')) :
    Does E.P ρ st.h st.n w (do pure (.value (← Instr.buildSlice t len (parts.map fun (i, x) => (i, evalT tm x))))) v h' n' := by
  have hpl : (parts.map fun (x : Nat × Operand) => (x.1, evalT tm x.2)).toList = parts.toList.map fun p => (p.1, evalT tm p.2) := by simp
  unfold opBuildSlice at he
  split at he
  · rename_i d ps hd hps
    have hD := ok.ti hd
    have hr := parts_rel hb hs hps
    have hu := hD.underlying (w := w)
    split at he
    · rename_i e hde
      rw [hde] at hu
      split at he
      · rename_i i hi
        have hT := ok.ti hi
        rw [cond_eq_ite, ble_iff] at he
        split at he
        · rename_i hle
          rw [decide_eq_true_eq] at hle
          have hle' : len * i.size ≤ 16777216 := hle
          split at he
          · rename_i cs hcs
            rw [cond_eq_ite] at he
            split at he
            · rename_i h1
              rw [onesR_eq] at h1
              obtain ⟨z, hz, hzc, _⟩ := hT.zeroValue
              have hz2 : z.cells = ⟨i.zero⟩ := by rw [← hzc]
              obtain ⟨r', q1, q2, q3⟩ := fill_rel hr (VRels.of_flats (flats_rep hT.flats len)) hcs
              have hlen : r'.length = len * i.size := by rw [← q2.length, q3, rep_length, hT.len]
              refine does_fresh hh he hf ⟨w.heap.size, 0, r'.length, ⟨i.size, some e, true⟩⟩ (.cells ⟨r'⟩ e) (.slice (some ⟨w.heap.size, 0, none⟩) len len) { w with heap := w.heap.push (.cells ⟨r'⟩ e) } ?_ rfl rfl rfl rfl rfl (fun g => ?_) (fun _ => ?_)
              · have q1' : Instr.fill (fun k => some (k * i.size, i.size)) ⟨rep i.zero len⟩ (parts.toList.map fun p => (p.1, evalT tm p.2)) = some ⟨r'⟩ := q1
                have hcells : (Array.range (len * i.size)).map (fun k => (if len * i.size = 0 then (#[] : Array Value) else ⟨i.zero⟩)[k % (if len * i.size = 0 then (#[] : Array Value) else ⟨i.zero⟩).size]!) = ⟨rep i.zero len⟩ := by
                  by_cases h0 : len * i.size = 0
                  · have : (rep i.zero len) = [] := List.length_eq_zero_iff.1 (by rw [rep_length, hT.len]; exact h0)
                    rw [this, h0]; simp
                  · simp only [h0, if_false]
                    have := zeros_eq i.zero len
                    rw [hT.len] at this
                    exact this
                simp only [Instr.buildSlice, Sem.run_bind, hu, Result.andThen_ok, hT.sizeOf]
                rw [if_neg (by simpa using hle')]
                by_cases h0 : len * i.size = 0
                · simp only [h0, if_true] at hcells
                  simp only [h0, if_true, Sem.run_bind, Sem.run_pure, Result.andThen_ok, hpl]
                  rw [hcells, q1']
                  simp only [Sem.run_bind, run_newRow, Result.andThen_ok, Sem.run_pure]
                · simp only [h0, if_false] at hcells
                  simp only [h0, if_false, Sem.run_bind, Sem.run_pure, Result.andThen_ok, hpl, hz, hz2]
                  rw [hcells, q1']
                  simp only [Sem.run_bind, run_newRow, Result.andThen_ok, Sem.run_pure]
              · exact orel_new (l := ⟨w.heap.size, 0, r'.length, ⟨i.size, some e, true⟩⟩) (by rw [q2.length, List.take_length]; exact q2.mono g) h1 rfl rfl (by rw [q2.length]; exact Nat.le_refl _) (fun _ h => by injection h) (fun _ => q2.length.symm)
              · exact vrel_slice (_m := 0) (more_same ρ st.n ⟨w.heap.size, 0, r'.length, ⟨i.size, some e, true⟩⟩) rfl (Nat.le_refl _) (by rw [hlen]; exact Nat.le_refl _)
            · cases he
          · cases he
        · cases he
      · cases he
    · cases he
  · cases he

theorem makeMap_does (hh : HRel ρ (getR st.h) w) (hf : Fresh ρ st.n n') {t : TypeId} (he : (fresh st.h st.n (.map [] 0) fun n => .map (some n)) = some (.val v h' n')) :
    Does E.P ρ st.h st.n w (do pure (.value (← Instr.makeMap t none))) v h' n' := by
  refine does_fresh hh he hf ⟨w.heap.size, 0, 0, ⟨0, none, false⟩⟩ (.map #[] 0) (.map (some w.heap.size)) { w with heap := w.heap.push (.map #[] 0) } ?_ rfl rfl rfl rfl rfl (fun _ => ?_) (fun _ => ?_)
  · simp [Instr.makeMap, newObj, Sem.run]
  · exact .map .nil
  · exact VRel.map (more_same ρ st.n ⟨w.heap.size, 0, 0, ⟨0, none, false⟩⟩)

end
end Go.Ev
end

section
/- A ground evaluator for closed calls, part K: make, len, append, copy. -/
namespace Go.Ev
open Go.RowKit

section
variable {E : Env} {ρ : Ren} {st : St} {tm : Array Value} {w : World} {v : Value} {h' : Tr RO} {n' : Nat}

theorem run_askRoom {P : Program} (b : Nat) (w : World) : (askRoom b).run P w = .ok () w := by
  unfold askRoom
  split <;> simp [mark, Sem.run]

theorem wrap_nat {c : Nat} (h : c ≤ 1048576) : IntKind.i64.wrap (c : Int) = c := by
  have : fitsK .i64 (.ofNat c) = true := by simp only [fitsK, blt_iff, decide_eq_true_eq]; omega
  exact wrap_fits (k := .i64) rfl this

theorem makeSlice_does (ok : EnvOK E) (hb : Base E ρ st.n) (hs : SRel ρ st.σ tm) (hh : HRel ρ (getR st.h) w) (hf : Fresh ρ st.n n') {t : TypeId} {x y : Operand} (he : opMakeSlice E st t x y = some (.val v h' n')) :
    Does E.P ρ st.h st.n w (do pure (.value (← Instr.makeSlice t (evalT tm x) (evalT tm y)))) v h' n' := by
  unfold opMakeSlice at he
  split at he
  · rename_i d l c hd hx hy
    have hD := ok.ti hd
    have hu := hD.underlying (w := w)
    split at he
    · rename_i e hde
      rw [hde] at hu
      split at he
      · rename_i i hi
        have hT := ok.ti hi
        rw [cond_eq_ite] at he
        split at he
        · rename_i hc
          simp only [Bool.and_eq_true, ble_iff, decide_eq_true_eq] at hc
          obtain ⟨⟨c1, c2⟩, c3⟩ := hc
          have c2' : c * i.bytes ≤ 1048576 := c2
          obtain ⟨z, hz, hzc, _⟩ := hT.zeroValue
          have hz2 : z.cells = ⟨i.zero⟩ := by rw [← hzc]
          obtain ⟨j, hj1, hj2, hj3⟩ := hT.typeBytes
          rw [VRel.eq_of_flat rfl (opnd_rel hb hs hx), VRel.eq_of_flat rfl (opnd_rel hb hs hy)]
          have hlen : (rep i.zero c).length = c * i.size := by rw [rep_length, hT.len]
          refine does_fresh hh he hf ⟨w.heap.size, 0, (rep i.zero c).length, ⟨i.size, some e, true⟩⟩ (.cells ⟨rep i.zero c⟩ e) (.slice (some ⟨w.heap.size, 0, none⟩) l c) { w with heap := w.heap.push (.cells ⟨rep i.zero c⟩ e) } ?_ rfl rfl rfl rfl rfl (fun g => ?_) (fun _ => ?_)
          · have w1 := wrap_nat (c := l) (by omega)
            have w2 := wrap_nat (c := c) c3
            have t1 : ¬ ((c : Int) < 0) := by omega
            have t2 : (i.bytes : Int) * (c : Int) ≤ 281474976710656 := by
              have e : (i.bytes : Int) * (c : Int) = ((c * i.bytes : Nat) : Int) := by rw [Nat.mul_comm, Int.natCast_mul]
              rw [e]
              generalize c * i.bytes = q at c2'
              omega
            have t3 : ¬ ((l : Int) < 0) := by omega
            have t4 : ¬ ((l : Int) > (c : Int)) := by omega
            have hcells : (Array.range (c * i.size)).map (fun k => (if c * i.size = 0 then (#[] : Array Value) else ⟨i.zero⟩)[k % (if c * i.size = 0 then (#[] : Array Value) else ⟨i.zero⟩).size]!) = ⟨rep i.zero c⟩ := by
              by_cases h0 : c * i.size = 0
              · have : (rep i.zero c) = [] := List.length_eq_zero_iff.1 (by rw [hlen]; exact h0)
                rw [this, h0]; simp
              · simp only [h0, if_false]
                have := zeros_eq i.zero c
                rw [hT.len] at this
                exact this
            simp only [Instr.makeSlice, Sem.run_bind, hu, Result.andThen_ok, asInt, asIntOf, Sem.run_pure, hj1, Int.ofNat_eq_natCast, w1, w2, hj2]
            rw [if_neg (by simp [t1, t2, t3, t4])]
            simp only [Sem.run_bind, Result.andThen_ok, run_askRoom, hT.sizeOf, Int.toNat_natCast]
            by_cases h0 : c * i.size = 0
            · simp only [h0, if_true] at hcells
              simp only [h0, if_true, Sem.run_bind, Sem.run_pure, Result.andThen_ok]
              rw [hcells]
              simp only [run_newRow, Result.andThen_ok]
            · simp only [h0, if_false] at hcells
              simp only [h0, if_false, Sem.run_bind, Sem.run_pure, Result.andThen_ok, hz, hz2]
              rw [hcells]
              simp only [run_newRow, Result.andThen_ok]
          · exact orel_new (l := ⟨w.heap.size, 0, (rep i.zero c).length, ⟨i.size, some e, true⟩⟩) (by rw [List.take_length]; exact VRels.of_flats (flats_rep hT.flats c)) (ones_rep hT.ones c) rfl rfl (Nat.le_refl _) (fun _ h => by injection h) (fun _ => rfl)
          · exact vrel_slice (_m := 0) (more_same ρ st.n ⟨w.heap.size, 0, (rep i.zero c).length, ⟨i.size, some e, true⟩⟩) rfl c1 (by rw [hlen]; exact Nat.le_refl _)
        · cases he
      · cases he
    · cases he
  · cases he

/-- What is appended or copied, in the true memory. -/
theorem src_rel (hh : HRel ρ (getR st.h) w) {z : Nat} {x x' : Value} {new : List Value} (h : srcOf st.h z x = some new) (hx : VRel ρ x x') :
    (∀ m, (Builtin.lenOf x').run E.P w = .ok (lenOf x) w ∧ (m ≤ lenOf x → ∃ new', (Builtin.firstCells z m x').run E.P w = .ok ⟨new'⟩ w ∧ VRels ρ (new.take (m * z)) new')) ∧ new.length = lenOf x * z ∧ (∀ s, x = .string s → z = 1 ∧ ones new = true) ∧ ones new = true := by
  unfold srcOf at h
  split at h
  · rename_i n c
    injection h with h; subst h
    cases hx
    refine ⟨fun m => ⟨by simp [Builtin.lenOf, lenOf], fun hm => ⟨[], by simp [Builtin.firstCells], by simp; exact .nil⟩⟩, by simp [lenOf], (fun s hs => by cases hs), rfl⟩
  · rename_i i o n c
    split at h
    · rename_i es cc hc
      obtain ⟨l, c', T, fr, h1, hes, h3, h4, h5, h6, h7, h8⟩ := row_read hh hc
      obtain ⟨q1, q2, q3⟩ := cut_eq _ _ _ _ h
      cases hx with
      | slice hi k1 k2 k3 k4 =>
        rename_i o' c2 l2
        rw [h1] at hi; injection hi with hi; subst hi
        refine ⟨fun m => ⟨by simp [Builtin.lenOf, lenOf], fun hm => ?_⟩, by rw [q2]; rfl, (fun s hs => by cases hs), ?_⟩
        · have hm' : m ≤ n := hm
          by_cases h0 : n = 0
          · subst h0
            have : m = 0 := by omega
            subst this
            refine ⟨[], ?_, by simp; exact .nil⟩
            simp [Builtin.firstCells, loadCells, loadCellsFrom]
          · have ho : o' = l.sh + o := by rcases k3 with k3 | k3; · exact absurd k3 h0
                                          · exact k3
            subst ho
            obtain ⟨r1, r2⟩ := cut_rel (by exact h8) (by omega) h
            have hmz : m * z ≤ n * z := Nat.mul_le_mul_right z hm'
            have r2' : l.sh + o + n * z ≤ c'.length := r2
            refine ⟨(c'.drop (l.sh + o)).take (m * z), ?_, ?_⟩
            · simp only [Builtin.firstCells]
              exact load_cells h3 (by omega)
            · have := r1.take (m * z)
              rw [List.take_take, show min (m * z) (Nat.mul n z) = m * z from Nat.min_eq_left hmz] at this
              exact this
        · rw [q1]; exact ones_take _ (ones_drop _ h6)
    · cases h
  · rename_i s
    rw [cond_eq_ite, beq_iff] at h
    split at h
    · rename_i hz
      rw [decide_eq_true_eq] at hz
      subst hz
      injection h with h; subst h
      cases hx
      have hf : flats (strBytes s) = true := by
        unfold strBytes
        induction s.data.toList with
        | nil => rfl
        | cons b l ih => simp only [List.map_cons, flats, flat, Bool.true_and]; exact ih
      have ho : ones (strBytes s) = true := by
        unfold strBytes
        induction s.data.toList with
        | nil => rfl
        | cons b l ih => simp only [List.map_cons, ones, one, Bool.true_and]; exact ih
      refine ⟨fun m => ⟨by simp [Builtin.lenOf, lenOf], fun hm => ?_⟩, by simp [strBytes, lenOf], fun _ _ => ⟨rfl, ho⟩, ho⟩
      refine ⟨(strBytes s).take (m * 1), ?_, ?_⟩
      · simp only [Builtin.firstCells, Sem.run_pure]
        congr 1
        apply Array.ext'
        simp only [Array.toList_map, Nat.mul_one, strBytes]
        rw [← List.map_take]
        congr 1
        simp [ByteArray.data_extract]
      · have : ∀ (a : List Value) (k : Nat), flats a = true → flats (a.take k) = true := by
          intro a
          induction a with
          | nil => intro k _; simp [flats]
          | cons b l ih =>
            intro k hk
            cases k with
            | zero => simp [flats]
            | succ k =>
              simp only [flats, Bool.and_eq_true] at hk
              simp only [List.take_succ_cons, flats, Bool.and_eq_true]
              exact ⟨hk.1, ih k hk.2⟩
        exact VRels.of_flats (this _ _ hf)
    · cases h
  · cases h

theorem len_does (ok : EnvOK E) (hh : HRel ρ (getR st.h) w) {argTypes : Array TypeId} {type : TypeId} {args : List Value} {args' : List Value} (ha : VRels ρ args args') (he : opLen E st argTypes.toList args = some (.val v h' n')) :
    Does E.P ρ st.h st.n w (do pure (.value (← Builtin.len_ argTypes type ⟨args'⟩))) v h' n' := by
  unfold opLen at he
  split at he
  · rename_i t x ht
    have hat : argTypes[0]? = some t := by rw [← Array.getElem?_toList, ht]; rfl
    cases ha with
    | cons hx hn =>
      cases hn
      rename_i x'
      split at he
      · rename_i d hd
        have hT := ok.ti hd
        have hu := hT.underlying (w := w)
        split at he <;> (try (cases he; done))
        · rename_i s hdu
          injection he with he; injection he with e1 e2 e3
          subst e1; subst e2; subst e3
          rw [hdu] at hu
          cases hx
          refine does_pure hh (v' := .int .i64 s.size) ?_ (by rw [lenR_eq]; exact .int _ _)
          simp [Builtin.len_, hat, hu, goInt]
        · rename_i n e hdu
          injection he with he; injection he with e1 e2 e3
          subst e1; subst e2; subst e3
          rw [hdu] at hu
          refine does_pure hh (v' := .int .i64 n) ?_ (.int _ _)
          simp [Builtin.len_, hat, hu, goInt]
        · rename_i e a n c hdu
          injection he with he; injection he with e1 e2 e3
          subst e1; subst e2; subst e3
          rw [hdu] at hu
          cases hx <;> (refine does_pure hh (v' := .int .i64 _) ?_ (.int _ _); simp [Builtin.len_, hat, hu, goInt])
        · rename_i a b hdu
          injection he with he; injection he with e1 e2 e3
          subst e1; subst e2; subst e3
          rw [hdu] at hu
          cases hx
          refine does_pure hh (v' := .int .i64 0) ?_ (.int _ _)
          simp [Builtin.len_, hat, hu, goInt]
        · rename_i a b r hdu
          rw [hdu] at hu
          split at he
          · rename_i es k hes
            injection he with he; injection he with e1 e2 e3
            subst e1; subst e2; subst e3
            obtain ⟨l, o', k1, k2, k3⟩ := hh.at_ _ _ hes
            cases k3 with
            | map hm =>
              cases hx with
              | map hi =>
                rw [k1] at hi; injection hi with hi; subst hi
                rename_i es'
                have hlen : ∀ {a b : List MapEntry}, ERels ρ a b → a.length = b.length := by
                  intro a b h; induction h with
                  | nil => rfl
                  | cons _ _ ih => simp [ih]
                refine does_pure hh (v' := .int .i64 es'.length) ?_ (by rw [lenR_eq, hlen hm]; exact .int _ _)
                simp [Builtin.len_, hat, hu, goInt, getObj, Sem.run, k2]
          · rename_i es hes
            injection he with he; injection he with e1 e2 e3
            subst e1; subst e2; subst e3
            obtain ⟨l, o', k1, k2, k3⟩ := hh.at_ _ _ hes
            cases k3 with
            | pmap hm hp =>
              cases hx with
              | map hi =>
                rw [k1] at hi; injection hi with hi; subst hi
                rename_i es2 es' c
                have hlen : ∀ {a b : List MapEntry}, NRels ρ a b → a.length = b.length := by
                  intro a b h; induction h with
                  | nil => rfl
                  | cons _ _ ih => simp [ih]
                refine does_pure hh (v' := .int .i64 es'.length) ?_ (by rw [lenR_eq, hlen hm, hp.length_eq]; exact .int _ _)
                simp [Builtin.len_, hat, hu, goInt, getObj, Sem.run, k2]
          · cases he
      · cases he
  · cases he

end
end Go.Ev
end

