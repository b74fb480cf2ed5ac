/- A ground evaluator for closed calls, part W: a region in any order. -/
import Derived.Test.YtggcnnpklkmeoaaGreatDoorEL
import Derived.Orders
section
namespace Go.Ev
open Go.RowKit

noncomputable section

def TS (x : It) (t : Nat) : Bool := match x.o.dst with
  | some d => Nat.beq d t
  | none => false
def GS (x : It) (_ : Nat) (_ : Value) : Value := x.v

abbrev memL (L : Nat → Bool) (its : List It) (h : Mem) : Mem := foldL TM GM L 0 its h
abbrev sigL (L : Nat → Bool) (its : List It) (σ : Nat → Value) : Nat → Value := foldL TS GS L 0 its σ

theorem TM_iff {x : It} {i : Nat} : TM x i = true ↔ i ∈ x.r.W ∨ (x.r.n ≤ i ∧ i < x.r.m) := by
  unfold TM
  rw [Bool.or_eq_true, Bool.and_eq_true, memN_iff, ble_iff, blt_iff, decide_eq_true_eq, decide_eq_true_eq]

theorem TS_iff {x : It} {t : Nat} : TS x t = true ↔ x.o.dst = some t := by
  unfold TS
  cases x.o.dst with
  | none => simp
  | some d => 
    simp only [Option.some.injEq]
    exact ⟨Nat.eq_of_beq_eq_true, fun h => h ▸ Nat.beq_refl d⟩

/-- Both put an entry into a map, with different keys. -/
def Ins (E : Env) (a b : Rec) : Prop := ∃ kt k k', a.ins = some (kt, k) ∧ b.ins = some (kt, k') ∧ eqIn E kt k k' = some false ∧ eqIn E kt k' k = some false

structure Apart (E : Env) (a b : Rec) : Prop where
  use : ∀ d, a.dst = some d → d ∉ b.uses
  used : ∀ d, b.dst = some d → d ∉ a.uses
  dst : ∀ d, a.dst = some d → b.dst ≠ some d
  wf : ∀ i ∈ a.W, i ∈ b.F → Ins E a b
  fw : ∀ i ∈ b.W, i ∈ a.F → Ins E a b
  fresh : ∀ i ∈ b.F, ¬ (a.n ≤ i ∧ i < a.m)

theorem isNo_iff {r : Option Bool} (h : isNo r = true) : r = some false := by
  unfold isNo at h
  split at h
  · rfl
  · cases h

theorem bothIns_spec {E : Env} {a b : Rec} (h : bothIns E a.ins b.ins = true) : Ins E a b := by
  unfold bothIns at h
  split at h
  · rename_i kt k ha
    split at h
    · rename_i kt' k' hb
      simp only [Bool.and_eq_true] at h
      have e : kt = kt' := Nat.eq_of_beq_eq_true h.1.1
      subst e
      exact ⟨kt, k, k', ha, hb, isNo_iff h.1.2, isNo_iff h.2⟩
    · cases h
  · cases h

theorem indep_spec {E : Env} {a b : Rec} (ha : ∀ i ∈ a.W, i ∈ a.F) (hb : ∀ i ∈ b.W, i ∈ b.F) (h : indep E a b = true) : Apart E a b := by
  unfold indep at h
  simp only [Bool.and_eq_true, Bool.or_eq_true, Bool.not_eq_true'] at h
  obtain ⟨⟨⟨⟨h1, h2⟩, h3⟩, h45⟩, h6⟩ := h
  have h4 : ∀ i ∈ a.W, i ∈ b.F → Ins E a b := by
    rcases h45 with (k | k) | k
    · exact fun i hi hf => absurd hf (apartN_iff.1 k i (ha i hi))
    · exact fun i hi hf => absurd hf (apartN_iff.1 k.1 i hi)
    · exact fun i hi hf => bothIns_spec k
  have h5 : ∀ i ∈ b.W, i ∈ a.F → Ins E a b := by
    rcases h45 with (k | k) | k
    · exact fun i hi hf => absurd (hb i hi) (apartN_iff.1 k i hf)
    · exact fun i hi hf => absurd hf (apartN_iff.1 k.2 i hi)
    · exact fun i hi hf => bothIns_spec k
  have di : ∀ (x : Option Tmp) (l : List Nat), dstIn x l = false → ∀ d, x = some d → d ∉ l := by
    intro x l h d e hm
    subst e
    have : dstIn (some d) l = memN d l := rfl
    rw [this, memN_iff.2 hm] at h; cases h
  refine ⟨di _ _ h1, di _ _ h2, fun d e1 e2 => ?_, h4, h5, outside_iff.1 h6⟩
  rw [e1, e2] at h3
  have : sameDst (some d) (some d) = Nat.beq d d := rfl
  rw [this, Nat.beq_refl] at h3; cases h3

/-- What an operation that puts an entry into a map is known to do, whatever other entries are there. -/
structure InsAt (E : Env) (N : Nat) (ops : Array Oper) (h0 : Mem) (σ0 : Nat → Value) (its : List It) (j : Nat) (x : It) (e : MapEntry) (r : Nat) (kt : TypeId) : Prop where
  F : x.r.F = [r]
  W : x.r.W = [r]
  key : x.r.ins = some (kt, e.key)
  m : x.r.m = x.r.n
  clear : ∃ es, entAt (memL (fun _ => true) (its.take j) h0 r) = some es ∧ ∀ e2 ∈ es, eqIn E kt e.key e2.key = some false
  run : ∀ ob es, entOf ob = some es → (∀ e2 ∈ es, eqIn E kt e.key e2.key = some false) → LocalOK E N ops j x.o (sigL (fun _ => true) (its.take j) σ0) x.r.uses (alone r (some ob)) x.r.n x.r.n x.v (alone r (some (.pmap (es ++ [e]))))

/-- What is known of the operation at j. -/
structure SpecAt (E : Env) (N : Nat) (ops : Array Oper) (h0 : Mem) (σ0 : Nat → Value) (n0 : Nat) (its : List It) (j : Nat) (x : It) : Prop where
  op : ops[j]? = some x.o
  lo : n0 ≤ x.r.n
  le : x.r.n ≤ x.r.m
  preds : nth (predsOf ops.toList []) j = some x.p
  below : ∀ k ∈ x.p, k < j
  foot : ∀ i ∈ x.r.F, i < x.r.n
  wr : ∀ i ∈ x.r.W, i ∈ x.r.F
  dst : x.r.dst = x.o.dst
  dlt : ∀ d, x.o.dst = some d → d < N
  lnk : ∀ q, x.r.ins = some q → ∃ e, x.ins = some e ∧ e.key = q.2
  apart : ∀ k y, k < j → its[k]? = some y → y.r.m ≤ x.r.n ∧ (k ∈ x.p ∨ Apart E y.r x.r)
  keep : x.ins = none → ∀ i ∈ x.r.F, i ∉ x.r.W → x.post i = memL (fun _ => true) (its.take j) h0 i
  run : x.ins = none → LocalOK E N ops j x.o (sigL (fun _ => true) (its.take j) σ0) x.r.uses (only x.r.F (memL (fun _ => true) (its.take j) h0)) x.r.n x.r.m x.v x.post
  ins : ∀ e, x.ins = some e → ∃ r kt, InsAt E N ops h0 σ0 its j x e r kt

theorem edgesOf_mem {pre : List (List Nat)} {k : Nat} : ∀ {l : List Edge}, k ∈ edgesOf l pre ↔ ∃ e ∈ l, Region.binds .any e = true ∧ (k = e.on ∨ ∃ q, nth pre e.on = some q ∧ k ∈ q)
  | [] => by
    have : edgesOf [] pre = [] := rfl
    rw [this]; simp
  | e :: l => by
    have he : edgesOf (e :: l) pre = (match Region.binds .any e with
      | true => joinN (e.on :: (match nth pre e.on with | some p => p | none => [])) (edgesOf l pre)
      | false => edgesOf l pre) := rfl
    rw [he]
    cases hb : Region.binds .any e with
    | false =>
      dsimp only
      rw [edgesOf_mem]
      constructor
      · rintro ⟨a, h1, h2⟩; exact ⟨a, List.mem_cons_of_mem _ h1, h2⟩
      · rintro ⟨a, h1, h2, h3⟩
        rcases List.mem_cons.1 h1 with rfl | h1
        · rw [hb] at h2; cases h2
        · exact ⟨a, h1, h2, h3⟩
    | true =>
      dsimp only
      rw [joinN_mem, edgesOf_mem, List.mem_cons]
      have hq : k ∈ (match nth pre e.on with | some p => p | none => []) ↔ ∃ q, nth pre e.on = some q ∧ k ∈ q := by
        cases nth pre e.on with
        | none => simp
        | some q => simp
      rw [hq]
      constructor
      · rintro (h | ⟨a, h1, h2⟩)
        · exact ⟨e, by simp, hb, h⟩
        · exact ⟨a, List.mem_cons_of_mem _ h1, h2⟩
      · rintro ⟨a, h1, h2, h3⟩
        rcases List.mem_cons.1 h1 with rfl | h1
        · exact .inl h3
        · exact .inr ⟨a, h1, h2, h3⟩

theorem predsOf_keep : ∀ (l : List Oper) (acc : List (List Nat)) (k : Nat) (q : List Nat), acc[k]? = some q → (predsOf l acc)[k]? = some q
  | [], acc, k, q, h => h
  | o :: l, acc, k, q, h => by
    have e : predsOf (o :: l) acc = predsOf l (acc ++ [edgesOf o.after.toList acc]) := rfl
    rw [e]
    refine predsOf_keep l _ k q ?_
    have hk : k < acc.length := by
      by_cases hk : k < acc.length
      · exact hk
      · rw [List.getElem?_eq_none (by omega)] at h; cases h
    rw [List.getElem?_append_left hk]; exact h

theorem predsOf_at : ∀ (l : List Oper) (acc : List (List Nat)) (i : Nat) (o : Oper), l[i]? = some o →
    ∃ pre : List (List Nat), (predsOf l acc)[acc.length + i]? = some (edgesOf o.after.toList pre) ∧ ∀ (k : Nat) (q : List Nat), pre[k]? = some q → (predsOf l acc)[k]? = some q
  | [], acc, i, o, h => by simp at h
  | o :: l, acc, 0, o', h => by
    have e : o = o' := by simpa using h
    subst e
    have e : predsOf (o :: l) acc = predsOf l (acc ++ [edgesOf o.after.toList acc]) := rfl
    refine ⟨acc, ?_, fun k q hk => predsOf_keep _ _ _ _ hk⟩
    rw [e]
    exact predsOf_keep _ _ _ _ (by simp)
  | o :: l, acc, i + 1, o', h => by
    have e : predsOf (o :: l) acc = predsOf l (acc ++ [edgesOf o.after.toList acc]) := rfl
    obtain ⟨pre, h1, h2⟩ := predsOf_at l (acc ++ [edgesOf o.after.toList acc]) i o' (by simpa using h)
    refine ⟨pre, ?_, ?_⟩
    · rw [e]
      rw [List.length_append, List.length_singleton] at h1
      rw [show acc.length + (i + 1) = acc.length + 1 + i by omega]; exact h1
    · rw [e]; exact h2

section
variable {ops : Array Oper} {j : Nat} {o : Oper} {p : List Nat}

theorem preds_forw (hp : nth (predsOf ops.toList []) j = some p) (ho : ops[j]? = some o) {k : Nat} (hk : k ∈ p) :
    ∃ e ∈ o.after.toList, Region.binds .any e = true ∧ (k = e.on ∨ ∃ q, nth (predsOf ops.toList []) e.on = some q ∧ k ∈ q) := by
  obtain ⟨pre, h1, h2⟩ := predsOf_at ops.toList [] j o (by simpa using ho)
  rw [nth_eq] at hp
  simp only [List.length_nil, Nat.zero_add] at h1
  rw [hp] at h1; injection h1 with h1
  rw [h1] at hk
  obtain ⟨e, a, b, c⟩ := edgesOf_mem.1 hk
  refine ⟨e, a, b, ?_⟩
  rcases c with c | ⟨q, c, d⟩
  · exact .inl c
  · rw [nth_eq] at c
    exact .inr ⟨q, by rw [nth_eq]; exact h2 _ _ c, d⟩

theorem preds_back (hp : nth (predsOf ops.toList []) j = some p) (ho : ops[j]? = some o) {e : Edge} (he : e ∈ o.after.toList) (hb : Region.binds .any e = true) : e.on ∈ p := by
  obtain ⟨pre, h1, h2⟩ := predsOf_at ops.toList [] j o (by simpa using ho)
  rw [nth_eq] at hp
  simp only [List.length_nil, Nat.zero_add] at h1
  rw [hp] at h1; injection h1 with h1
  rw [h1]
  exact edgesOf_mem.2 ⟨e, he, hb, .inl rfl⟩
end

/-- Where the walk stands when just these are done. -/
structure Walk (E : Env) (N : Nat) (h0 : Mem) (σ0 : Nat → Value) (n0 nm : Nat) (its : List It) (ρ0 : Ren) (w0 : World) (L : Nat → Bool) (ρ : Ren) (w : World) (tm : Array Value) : Prop where
  goes : Goes ρ0 h0 n0 w0 ρ (memL L its h0) nm w
  sig : ∀ t, VRel ρ (sigL L its σ0 t) (tm.getD t undef)
  size : tm.size = N
  fresh : ∀ j x, its[j]? = some x → L j = false → Fresh ρ x.r.n x.r.m
  closed : ∀ j x, its[j]? = some x → L j = true → ∀ k ∈ x.p, L k = true
  inside : ∀ q, L q = true → q < its.length

def add (j : Nat) (L : Nat → Bool) : Nat → Bool := fun q => Nat.beq q (0 + j) || L q

theorem add_self {j : Nat} {L : Nat → Bool} : add j L j = true := by
  unfold add; rw [Nat.zero_add, Nat.beq_refl]; rfl
theorem add_old {j q : Nat} {L : Nat → Bool} (h : L q = true) : add j L q = true := by unfold add; rw [h, Bool.or_true]
theorem add_iff {j q : Nat} {L : Nat → Bool} : add j L q = true ↔ q = j ∨ L q = true := by
  unfold add; rw [Nat.zero_add, Bool.or_eq_true]
  exact ⟨fun h => h.imp Nat.eq_of_beq_eq_true id, fun h => h.imp (fun (e : q = j) => by rw [e]; exact Nat.beq_refl j) id⟩

theorem walk_step {E : Env} {N : Nat} {ops : Array Oper} {h0 : Mem} {σ0 : Nat → Value} {n0 nm : Nat} {its : List It} {ρ0 : Ren} {w0 : World} {L : Nat → Bool} {ρ : Ren} {w : World} {tm : Array Value}
    (hb : Base E ρ0 n0) (spec : ∀ j x, its[j]? = some x → SpecAt E N ops h0 σ0 n0 its j x ∧ x.r.m ≤ nm) (W : Walk E N h0 σ0 n0 nm its ρ0 w0 L ρ w tm)
    {j : Nat} {x : It} (hx : its[j]? = some x) (hj : L j = false) (ready : ∀ e ∈ x.o.after.toList, Region.binds .any e = true → L e.on = true) :
    ∀ (bf : Frame) (rs : List Nat) (kf : List Item) (cf : List Frame), ∃ ρ' w' tm', Walk E N h0 σ0 n0 nm its ρ0 w0 (add j L) ρ' w' tm' ∧
      Steps E.P (lone (fat bf tm (.inRegion ops (j :: rs) :: kf)) cf w) (lone (fat bf tm' (.inRegion ops rs :: kf)) cf w') := by
  intro bf rs kf cf
  obtain ⟨sp, hm⟩ := spec j x hx
  have hclosed : ∀ k ∈ x.p, L k = true := by
    intro k hk
    obtain ⟨e, he, hbd, h⟩ := preds_forw sp.preds sp.op hk
    have le := ready e he hbd
    rcases h with rfl | ⟨q, hq, hkq⟩
    · exact le
    · have hlt := W.inside _ le
      obtain ⟨y, hy⟩ : ∃ y, its[e.on]? = some y := ⟨its[e.on], by rw [List.getElem?_eq_getElem hlt]⟩
      have := (spec _ _ hy).1.preds
      rw [hq] at this; injection this with this
      exact W.closed _ _ hy le k (this ▸ hkq)
  -- those behind it that are done are apart from it
  have later : ∀ q y, j < q → its[q]? = some y → L q = true → x.r.m ≤ y.r.n ∧ Apart E x.r y.r := by
    intro q y hq hy hl
    obtain ⟨h1, h2⟩ := (spec q y hy).1.apart j x hq hx
    refine ⟨h1, h2.resolve_left fun h => ?_⟩
    have := W.closed _ _ hy hl j h
    rw [hj] at this; cases this
  have earlier : ∀ q y, q < j → its[q]? = some y → L q = false → y.r.m ≤ x.r.n ∧ Apart E y.r x.r := by
    intro q y hq hy hl
    obtain ⟨h1, h2⟩ := sp.apart q y hq hy
    refine ⟨h1, h2.resolve_left fun h => ?_⟩
    rw [hclosed q h] at hl; cases hl
  have same : ∀ (T : It → Nat → Bool) (i : Nat), (∀ q y, its[q]? = some y → T y i = true → q < j → L q = false → False) → (∀ q y, its[q]? = some y → T y i = true → j < q → L q = true → False) →
      ∀ q y, its[q]? = some y → T y i = true → (Nat.blt (0 + q) (0 + j) && true) = L (0 + q) := by
    intro T i a b q y hy ht
    rw [Nat.zero_add, Nat.zero_add, Bool.and_true, blt_iff]
    rcases Nat.lt_trichotomy q j with h | h | h
    · rw [decide_eq_true h]
      cases hl : L q with
      | true => rfl
      | false => exact (a q y hy ht h hl).elim
    · subst h; rw [hj]; simp
    · rw [decide_eq_false (by omega)]
      cases hl : L q with
      | false => rfl
      | true => exact (b q y hy ht h hl).elim
  have hsig : ∀ t ∈ x.r.uses, sigL (fun _ => true) (its.take j) σ0 t = sigL L its σ0 t := by
    intro t ht
    show foldL TS GS _ 0 (its.take j) σ0 t = _
    rw [fold_take]
    refine fold_agree (same TS t ?_ ?_) rfl
    · intro q y hy hT hq hl
      rw [TS_iff] at hT
      exact (earlier q y hq hy hl).2.use t (by rw [(spec q y hy).1.dst]; exact hT) ht
    · intro q y hy hT hq hl
      rw [TS_iff] at hT
      exact (later q y hq hy hl).2.used t (by rw [(spec q y hy).1.dst]; exact hT) ht
  have hbase : Base E ρ x.r.n := by
    have := sp.lo
    refine ⟨Nat.le_trans hb.1 this, fun q hq => ?_⟩
    obtain ⟨l, h1, h2⟩ := hb.2 q hq
    exact ⟨l, by rw [W.goes.ext q (by have := hb.1; omega), h1], h2⟩
  have hrel : HRel ρ (only x.r.F (memL L its h0)) w := by
    constructor
    · intro i o ho
      unfold only at ho
      split at ho
      · exact W.goes.rel.at_ i o ho
      · cases ho
    · intro a b la lb h1 h2
      have : ∀ i, only x.r.F (memL L its h0) i ≠ none → memL L its h0 i ≠ none := by
        intro i h e
        unfold only at h
        split at h
        · exact h e
        · exact h rfl
      exact W.goes.rel.inj a b la lb (this a h1) (this b h2)
  have hfr := W.fresh j x hx hj
  have hjL : L (0 + j) = false := by rw [Nat.zero_add]; exact hj
  have main : ∃ ρ' w' v', Goes ρ (memL L its h0) x.r.n w ρ' (memL (add j L) its h0) x.r.m w' ∧ Grows ρ ρ' ∧ VRel ρ' x.v v' ∧
      Steps E.P (lone (fat bf tm (.inRegion ops (j :: rs) :: kf)) cf w) (lone (fat bf (put tm x.o.dst v') (.inRegion ops rs :: kf)) cf w') := by
    cases hxi : x.ins with
    | none =>
      have noIns : ∀ q, x.r.ins = some q → False := by
        intro q hq
        obtain ⟨e, he, _⟩ := sp.lnk q hq
        rw [hxi] at he; cases he
      have hmem : ∀ i ∈ x.r.F, memL (fun _ => true) (its.take j) h0 i = memL L its h0 i := by
        intro i hi
        show foldL TM GM _ 0 (its.take j) h0 i = _
        rw [fold_take]
        refine fold_agree (same TM i ?_ ?_) rfl
        · intro q y hy hT hq hl
          rw [TM_iff] at hT
          obtain ⟨_, ap⟩ := earlier q y hq hy hl
          rcases hT with h | h
          · obtain ⟨_, _, _, _, h2, _⟩ := ap.wf i h hi
            exact noIns _ h2
          · exact ap.fresh i hi h
        · intro q y hy hT hq hl
          rw [TM_iff] at hT
          obtain ⟨hle, ap⟩ := later q y hq hy hl
          have := sp.foot i hi; have := sp.le
          rcases hT with h | h
          · obtain ⟨_, _, _, h2, _⟩ := ap.fw i h hi
            exact noIns _ h2
          · omega
      have honly : only x.r.F (memL (fun _ => true) (its.take j) h0) = only x.r.F (memL L its h0) := by
        funext i
        unfold only
        by_cases hi : i ∈ x.r.F
        · rw [if_pos hi, if_pos hi, hmem i hi]
        · rw [if_neg hi, if_neg hi]
      have run := sp.run hxi
      rw [honly] at run
      obtain ⟨ρ', w', v', hg, hv, hst⟩ := run ρ w tm W.size hbase (fun t ht => by rw [hsig t ht]; exact W.sig t) hrel hfr bf rs kf cf
      have hgf := hg.frame W.goes.rel hfr
      have hmerge : mergeF x.r.F x.r.n x.r.m x.post (memL L its h0) = memL (add j L) its h0 := by
        funext i
        show _ = foldL TM GM (add j L) 0 its h0 i
        unfold add
        rw [fold_add hx hjL]
        · by_cases ht : TM x i = true
          · rw [if_pos ht]
            rw [TM_iff] at ht
            have e1 : ∀ p, GM x i p = x.post i := fun p => by unfold GM; rw [hxi]
            rw [e1]
            exact mergeF_in (ht.imp (sp.wr i) id)
          · rw [if_neg ht]
            rw [TM_iff] at ht
            by_cases hi : i ∈ x.r.F
            · rw [mergeF_in (.inl hi), sp.keep hxi i hi (fun h => ht (.inl h)), hmem i hi]
            · rw [mergeF_out hi (fun h => ht (.inr h))]
        · intro ht q y hq hy hl
          rw [Nat.zero_add] at hl
          obtain ⟨hle, ap⟩ := later q y hq hy hl
          rw [TM_iff] at ht
          cases hT : TM y i with
          | false => rfl
          | true =>
            rw [TM_iff] at hT
            have sy := (spec q y hy).1
            have := sp.le
            rcases ht with h | h
            · rcases hT with h2 | h2
              · obtain ⟨_, _, _, h3, _⟩ := ap.wf i h (sy.wr i h2)
                exact (noIns _ h3).elim
              · have := sp.foot i (sp.wr i h); omega
            · rcases hT with h2 | h2
              · exact (ap.fresh i (sy.wr i h2) h).elim
              · omega
      rw [hmerge] at hgf
      exact ⟨ρ', w', v', hgf, hg.grows hfr, hv, hst⟩
    | some e =>
      obtain ⟨r, kt, A⟩ := sp.ins e hxi
      have hrF : r ∈ x.r.F := by rw [A.F]; simp
      have hTr : TM x r = true := TM_iff.2 (.inl (by rw [A.W]; simp))
      have lnk : ∀ (q : Nat) (y : It), its[q]? = some y → (∃ p, y.r.ins = some p) → ∃ f, y.ins = some f := by
        intro q y hy ⟨p, hp⟩
        obtain ⟨f, h1, _⟩ := (spec q y hy).1.lnk p hp
        exact ⟨f, h1⟩
      -- the entries that are there
      have hsplit : memL L its h0 r = foldL TM GM L (0 + (its.take j).length) (its.drop j) (foldL TM GM L 0 (its.take j) h0) r := by
        show foldL TM GM L 0 its h0 r = _
        rw [← fold_append, List.take_append_drop]
      have hjlen : j < its.length := by
        by_cases hlt : j < its.length
        · exact hlt
        · rw [List.getElem?_eq_none (by omega)] at hx; cases hx
      have htl : (its.take j).length = j := by rw [List.length_take]; omega
      have hclear : ∃ es, entAt (memL L its h0 r) = some es ∧ ∀ e2 ∈ es, eqIn E kt e.key e2.key = some false := by
        rw [hsplit, htl]
        refine fold_clear (C := fun e2 => eqIn E kt e.key e2.key = some false) (fun q y hy hT hl => ?_) ?_
        · rw [List.getElem?_drop] at hy
          rw [Nat.zero_add] at hl
          rcases Nat.eq_zero_or_pos q with h0 | h0
          · subst h0; rw [Nat.add_zero] at hl; rw [hj] at hl; cases hl
          · obtain ⟨hle, ap⟩ := later (j + q) y (by omega) hy hl
            rw [TM_iff] at hT
            rcases hT with h | h
            · obtain ⟨kt', k, k', h1, h2, h3, h4⟩ := ap.fw r h hrF
              rw [A.key] at h1; injection h1 with h1; injection h1 with e1 e2
              subst e1; subst e2
              obtain ⟨f, g1, g2⟩ := (spec _ y hy).1.lnk _ h2
              exact ⟨f, g1, by rw [g2]; exact h3⟩
            · have := sp.foot r hrF; have := sp.le; omega
        · have u : Under (foldL TM GM (fun _ => true) 0 (its.take j) h0 r) (foldL TM GM L 0 (its.take j) h0 r) := by
            refine fold_under (fun q y hy hT => ?_) (.inl rfl)
            rw [Nat.zero_add]
            cases hl : L q with
            | true => exact .inl rfl
            | false =>
              have hq : q < j := by
                by_cases hlt : q < j
                · exact hlt
                · rw [List.getElem?_eq_none (by omega)] at hy; cases hy
              rw [List.getElem?_take_of_lt hq] at hy
              obtain ⟨_, ap⟩ := earlier q y hq hy hl
              rw [TM_iff] at hT
              rcases hT with h | h
              · obtain ⟨kt', k, k', h1, _⟩ := ap.wf r h hrF
                exact .inr (lnk q y hy ⟨_, h1⟩)
              · exact (ap.fresh r hrF h).elim
          obtain ⟨es, h1, h2⟩ := A.clear
          rcases u with u | ⟨es1, es2, h3, h4, h5⟩
          · exact ⟨es, by rw [← u]; exact h1, h2⟩
          · have h1' : entAt (foldL TM GM (fun _ => true) 0 (its.take j) h0 r) = some es := h1
            rw [h3] at h1'; injection h1' with h1'; subst h1'
            exact ⟨es2, h4, fun e2 he => h2 e2 (h5 e2 he)⟩
      obtain ⟨es, hes, hcl⟩ := hclear
      obtain ⟨ob, hob, hob2⟩ : ∃ ob, memL L its h0 r = some ob ∧ entOf ob = some es := by
        cases hm : memL L its h0 r with
        | none => rw [hm] at hes; cases hes
        | some ob => rw [hm] at hes; exact ⟨ob, rfl, hes⟩
      have honly : only x.r.F (memL L its h0) = alone r (some ob) := by
        funext i
        unfold only alone
        rw [A.F]
        by_cases hi : i = r
        · subst hi; simp [hob]
        · simp [hi]
      rw [honly] at hrel
      obtain ⟨ρ', w', v', hg, hv, hst⟩ := A.run ob es hob2 hcl ρ w tm W.size hbase (fun t ht => by rw [hsig t ht]; exact W.sig t) hrel (by rw [← A.m] at hfr; rw [A.m] at hfr; exact hfr) bf rs kf cf
      rw [← honly] at hg
      have hm : x.r.m = x.r.n := A.m
      rw [hm] at hfr ⊢
      have hgf := hg.frame W.goes.rel hfr
      refine ⟨ρ', w', v', hgf.sim fun i => ?_, hg.grows hfr, hv, hst⟩
      by_cases hi : i = r
      · subst hi
        rw [mergeF_in (.inl hrF)]
        have e1 : alone i (some (RO.pmap (es ++ [e]))) i = insO e (memL L its h0 i) := by
          rw [insO_some hes]; exact if_pos rfl
        rw [e1]
        show Sim _ (foldL TM GM (add j L) 0 its h0 i)
        unfold add
        refine fold_add_ins hxi hTr hx hjL (fun q y hq hy hT hl => ?_)
        rw [Nat.zero_add] at hl
        obtain ⟨hle, ap⟩ := later q y hq hy hl
        rw [TM_iff] at hT
        rcases hT with h | h
        · obtain ⟨kt', k, k', h1, h2, _⟩ := ap.fw i h hrF
          exact lnk q y hy ⟨_, h2⟩
        · have := sp.foot i hrF; have := sp.le; omega
      · have hTi : ¬ TM x i = true := by
          rw [TM_iff, A.W, hm]
          rintro (h | h)
          · exact hi (List.mem_singleton.1 h)
          · omega
        rw [mergeF_out (by rw [A.F]; simpa using hi) (by omega)]
        have : memL (add j L) its h0 i = memL L its h0 i := by
          show foldL TM GM (add j L) 0 its h0 i = _
          unfold add
          rw [fold_add hx hjL (fun h => absurd h hTi), if_neg hTi]
        rw [this]; exact .refl _
  obtain ⟨ρ', w', v', hgf, gr, hv, hst⟩ := main
  refine ⟨ρ', w', put tm x.o.dst v', ⟨W.goes.widen hgf sp.lo hm, fun t => ?_, ?_, ?_, ?_, ?_⟩, hst⟩
  · show VRel ρ' (foldL TS GS (add j L) 0 its σ0 t) _
    unfold add
    rw [fold_add hx hjL]
    · have old := (W.sig t).mono gr
      cases hd : x.o.dst with
      | none =>
        have : ¬ TS x t = true := by rw [TS_iff, hd]; simp
        rw [if_neg this]; exact old
      | some d =>
        have hdN := sp.dlt d hd
        have e : (put tm (some d) v').getD t undef = if t = d then v' else tm.getD t undef := by
          simp only [put, Array.getD_eq_getD_getElem?, Array.getElem?_setIfInBounds]
          by_cases ht : t = d
          · subst ht; simp [W.size, hdN]
          · rw [if_neg (fun e => ht e.symm), if_neg ht]
        rw [e]
        by_cases ht : t = d
        · subst ht
          rw [if_pos (TS_iff.2 hd), if_pos rfl]; exact hv
        · have : ¬ TS x t = true := by rw [TS_iff, hd]; intro h; injection h with h; exact ht h.symm
          rw [if_neg this, if_neg ht]; exact old
    · intro ht q y hq hy hl
      rw [Nat.zero_add] at hl
      rw [TS_iff] at ht
      cases hT : TS y t with
      | false => rfl
      | true =>
        rw [TS_iff] at hT
        exact ((later q y hq hy hl).2.dst t (by rw [sp.dst]; exact ht) (by rw [(spec q y hy).1.dst]; exact hT)).elim
  · rw [← W.size]; cases x.o.dst <;> simp [put]
  · intro q y hy hl i h1 h2
    have hne : q ≠ j := by intro e; subst e; rw [add_self] at hl; cases hl
    have hl' : L q = false := by
      cases h : L q with
      | false => rfl
      | true => rw [add_old h] at hl; cases hl
    have hout : ¬ (x.r.n ≤ i ∧ i < x.r.m) := by
      rcases Nat.lt_or_gt_of_ne hne with h | h
      · have := (sp.apart q y h hy).1; omega
      · have := ((spec q y hy).1.apart j x h hx).1; omega
    rw [hgf.ext i hout]
    exact W.fresh q y hy hl' i h1 h2
  · intro q y hy hl k hk
    rcases add_iff.1 hl with rfl | h
    · rw [hx] at hy; injection hy with hy; subst hy
      exact add_old (hclosed k hk)
    · exact add_old (W.closed q y hy h k hk)
  · intro q hq
    rcases add_iff.1 hq with rfl | h
    · by_cases hlt : q < its.length
      · exact hlt
      · rw [List.getElem?_eq_none (by omega)] at hx; cases hx
    · exact W.inside q h

end
end Go.Ev
end

section
/- A ground evaluator for closed calls, part X: a region that draws its order, from its evaluation to its runs. -/
namespace Go.Ev
open Go.RowKit

def free (L : Nat → Bool) : Nat → Nat
  | 0 => 0
  | n + 1 => free L n + if L n then 0 else 1

theorem free_same {L : Nat → Bool} {j : Nat} : ∀ {n : Nat}, n ≤ j → free (add j L) n = free L n
  | 0, _ => rfl
  | n + 1, h => by
    unfold free
    rw [free_same (by omega)]
    have : add j L n = L n := by
      cases hl : L n with
      | true => exact add_old hl
      | false =>
        cases ha : add j L n with
        | false => rfl
        | true => rcases add_iff.1 ha with e | e
                  · omega
                  · rw [hl] at e; cases e
    rw [this]

theorem free_add {L : Nat → Bool} {j : Nat} (hj : L j = false) : ∀ {n : Nat}, j < n → free (add j L) n + 1 = free L n
  | 0, h => by omega
  | n + 1, h => by
    unfold free
    by_cases e : j = n
    · subst e
      rw [free_same (Nat.le_refl _), add_self, hj]; simp
    · have := free_add hj (n := n) (by omega)
      have e2 : add j L n = L n := by
        cases hl : L n with
        | true => exact add_old hl
        | false =>
          cases ha : add j L n with
          | false => rfl
          | true => rcases add_iff.1 ha with e3 | e3
                    · omega
                    · rw [hl] at e3; cases e3
      rw [e2]; omega

theorem free_zero {L : Nat → Bool} : ∀ {n : Nat}, free L n = 0 → ∀ q, q < n → L q = true
  | 0, _, q, h => by omega
  | n + 1, h, q, hq => by
    unfold free at h
    have h1 : free L n = 0 := by omega
    by_cases e : q = n
    · subst e
      cases hl : L q with
      | true => rfl
      | false => rw [hl] at h; simp at h
    · exact free_zero h1 q (by omega)

def lst (a : Array Bool) : Nat → Bool := fun q => a.getD q false

theorem lst_set {a : Array Bool} {i : Nat} (h : i < a.size) : lst (a.setIfInBounds i true) = add i (lst a) := by
  funext q
  unfold lst
  have e : (a.setIfInBounds i true).getD q false = if q = i then true else a.getD q false := by
    simp only [Array.getD_eq_getD_getElem?, Array.getElem?_setIfInBounds]
    by_cases hq : q = i
    · subst hq; simp [h]
    · rw [if_neg (fun e => hq e.symm), if_neg hq]
  rw [e]
  by_cases hq : q = i
  · subst hq; rw [if_pos rfl, add_self]
  · rw [if_neg hq]
    unfold add
    have : Nat.beq q (0 + i) = false := by
      cases hb : Nat.beq q (0 + i) with
      | false => rfl
      | true => have := Nat.eq_of_beq_eq_true hb; omega
    rw [this]; rfl

theorem ready_iff {ops : Array Oper} {a : Array Bool} {i : Nat} : i ∈ Region.ready .any ops a ↔ i < a.size ∧ lst a i = false ∧ i < ops.size ∧ ∃ o, ops[i]? = some o ∧ ∀ e ∈ o.after.toList, Region.binds .any e = true → lst a e.on = true := by
  unfold Region.ready lst
  simp only [List.mem_filter, List.mem_range, Bool.and_eq_true, Bool.not_eq_true']
  have hd : a.getD i true = false ↔ i < a.size ∧ a.getD i false = false := by
    simp only [Array.getD_eq_getD_getElem?]
    by_cases h : i < a.size
    · simp [h]
    · simp [h]
  rw [hd]
  constructor
  · rintro ⟨h1, ⟨h2, h3⟩, h4⟩
    refine ⟨h2, h3, h1, ops[i], by simp [h1], fun e he hb => ?_⟩
    simp only [h1, Array.getElem?_eq_getElem, Option.map_some, Option.getD_some, Array.all_eq_true_iff_forall_mem] at h4
    have := h4 e (by simpa using he)
    simpa [hb] using this
  · rintro ⟨h2, h3, h1, o, ho, h4⟩
    refine ⟨h1, ⟨h2, h3⟩, ?_⟩
    rw [ho]
    simp only [Option.map_some, Option.getD_some, Array.all_eq_true_iff_forall_mem]
    intro e he
    cases hb : Region.binds .any e with
    | false => rfl
    | true => exact h4 e (by simpa using he) hb

theorem walk_all {E : Env} {N : Nat} {ops : Array Oper} {h0 : Mem} {σ0 : Nat → Value} {n0 nm : Nat} {its : List It} {ρ0 : Ren} {w0 : World}
    (hb : Base E ρ0 n0) (len : its.length = ops.size) (spec : ∀ j x, its[j]? = some x → SpecAt E N ops h0 σ0 n0 its j x ∧ x.r.m ≤ nm) :
    ∀ (fuel t : Nat) (a : Array Bool) (ρ : Ren) (w : World) (tm : Array Value), a.size = ops.size → free (lst a) ops.size ≤ fuel → Walk E N h0 σ0 n0 nm its ρ0 w0 (lst a) ρ w tm → ∀ (bf : Frame) (kf : List Item) (cf : List Frame),
    ∃ L' ρ' w' tm', (∀ q, q < ops.size → L' q = true) ∧ Walk E N h0 σ0 n0 nm its ρ0 w0 L' ρ' w' tm' ∧
      Steps E.P (lone (fat bf tm (.inRegion ops (Region.linearise.go .any ops fuel t a []) :: kf)) cf w) (lone (fat bf tm' kf) cf w') := by
  intro fuel
  induction fuel with
  | zero =>
    intro t a ρ w tm hz hf W bf kf cf
    refine ⟨lst a, ρ, w, tm, free_zero (by omega), W, ?_⟩
    have : Region.linearise.go .any ops 0 t a [] = [] := by simp [Region.linearise.go]
    rw [this]
    exact .one st_region_end
  | succ fuel ih =>
    intro t a ρ w tm hz hf W bf kf cf
    have e : Region.linearise.go .any ops (fuel + 1) t a [] = (match (Region.ready .any ops a)[t % (Region.ready .any ops a).length]? with
      | some i => Region.linearise.go .any ops fuel (t / (Region.ready .any ops a).length) (a.setIfInBounds i true) [i]
      | none => [].reverse) := by simp only [Region.linearise.go]; rfl
    rw [e]
    cases hi : (Region.ready .any ops a)[t % (Region.ready .any ops a).length]? with
    | none =>
      have hnil : Region.ready .any ops a = [] := by
        cases hr : Region.ready .any ops a with
        | nil => rfl
        | cons x xs =>
          rw [hr] at hi
          have hlt : t % (x :: xs).length < (x :: xs).length := Nat.mod_lt _ (by simp)
          rw [List.getElem?_eq_getElem hlt] at hi
          cases hi
      refine ⟨lst a, ρ, w, tm, fun q => ?_, W, .one st_region_end⟩
      induction q using Nat.strongRecOn with
      | _ q ihq =>
        intro hq
        cases hl : lst a q with
        | true => rfl
        | false =>
          obtain ⟨x, hx⟩ : ∃ x, its[q]? = some x := ⟨its[q]'(by omega), by rw [List.getElem?_eq_getElem (by omega)]⟩
          have sp := (spec q x hx).1
          have : q ∈ Region.ready .any ops a := by
            refine ready_iff.2 ⟨by omega, hl, hq, x.o, sp.op, fun e he hbd => ?_⟩
            have h1 := preds_back sp.preds sp.op he hbd
            have h2 := sp.below _ h1
            exact ihq _ h2 (by omega)
          rw [hnil] at this; cases this
    | some i =>
      dsimp only
      rw [linearise_go_acc, List.reverse_singleton, List.singleton_append]
      obtain ⟨h1, h2, h3, o, ho, h4⟩ := ready_iff.1 (List.mem_of_getElem? hi)
      obtain ⟨x, hx⟩ : ∃ x, its[i]? = some x := ⟨its[i]'(by omega), by rw [List.getElem?_eq_getElem (by omega)]⟩
      have sp := (spec i x hx).1
      have hox : o = x.o := by have := sp.op; rw [ho] at this; injection this
      subst hox
      obtain ⟨ρ1, w1, tm1, W1, s1⟩ := walk_step hb spec W hx h2 h4 bf (Region.linearise.go .any ops fuel (t / (Region.ready .any ops a).length) (a.setIfInBounds i true) []) kf cf
      rw [← lst_set h1] at W1
      obtain ⟨L', ρ', w', tm', a1, a2, a3⟩ := ih (t / (Region.ready .any ops a).length) (a.setIfInBounds i true) ρ1 w1 tm1 (by simp [hz]) (by rw [lst_set h1]; have := free_add h2 h3; omega) W1 bf kf cf
      exact ⟨L', ρ', w', tm', a1, a2, s1.trans a3⟩

end Go.Ev
end

