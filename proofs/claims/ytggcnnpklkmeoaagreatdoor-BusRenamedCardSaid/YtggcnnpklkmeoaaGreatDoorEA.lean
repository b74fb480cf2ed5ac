/- A ground evaluator for closed calls, part A: reference values and the memory that they speak of.
   A reference value is a value whose block numbers are names of blocks; a renaming says where in the true memory each named block lies. -/
import Derived.Calls
import Derived.Orders
import Derived.Laws.Sem
import Derived.Laws.World
import Derived.Below
section
namespace Go.Ev

/-- What is known of a row of cells: the cells of an element of its slices; the type of the true block's elements, if it is known; whether the reference has the whole block. -/
structure ES where
  n : Nat
  t : Option TypeId
  whole : Bool

/-- Where a named block lies: the true block, the first cell of it, the cells that the true block has, and what is known of it. -/
structure Loc where
  g : Nat
  sh : Nat
  sz : Nat
  es : ES

abbrev Ren := Nat → Option Loc

def plainFn : Fn → Bool
  | .yield _ => false
  | _ => true

mutual
/-- A reference value, and the true one. A slice's capacity is unknown: the reference has its length in its place; another number there says that the capacity is the length. -/
inductive VRel (ρ : Ren) : Value → Value → Prop
  | bool (b : Bool) : VRel ρ (.bool b) (.bool b)
  | int (k : IntKind) (n : Int) : VRel ρ (.int k n) (.int k n)
  | float (k : FloatKind) (n : Nat) : VRel ρ (.float k n) (.float k n)
  | string (s : ByteArray) : VRel ρ (.string s) (.string s)
  | nilPtr : VRel ρ (.pointer none) (.pointer none)
  | ptr {i o : Nat} {l : Loc} (h : ρ i = some l) : VRel ρ (.pointer (some ⟨i, o, none⟩)) (.pointer (some ⟨l.g, l.sh + o, none⟩))
  | nilSlice : VRel ρ (.slice none 0 0) (.slice none 0 0)
  | slice {i o o' n c r : Nat} {l : Loc} (h : ρ i = some l) (hn : n ≤ c) (hc : o' + c * l.es.n ≤ l.sz) (ho : n = 0 ∨ o' = l.sh + o) (hr : r = n ∨ c = n) :
      VRel ρ (.slice (some ⟨i, o, none⟩) n r) (.slice (some ⟨l.g, o', none⟩) n c)
  | nilMap : VRel ρ (.map none) (.map none)
  | map {i : Nat} {l : Loc} (h : ρ i = some l) : VRel ρ (.map (some i)) (.map (some l.g))
  | func {fn : Fn} {fs fs' cs cs' : List Value} (hp : plainFn fn = true) (hf : VRels ρ fs fs') (hc : VRels ρ cs cs') :
      VRel ρ (.func fn ⟨fs⟩ ⟨cs⟩) (.func fn ⟨fs'⟩ ⟨cs'⟩)
  | yield {i : Nat} {l : Loc} (h : ρ i = some l) : VRel ρ (.func (.yield i) #[] #[]) (.func (.yield l.g) #[] #[])
  | nilFunc : VRel ρ .nilFunc .nilFunc
  | iface {t : TypeId} {v v' : Value} (h : VRel ρ v v') : VRel ρ (.iface t v) (.iface t v')
  | nilIface : VRel ρ .nilIface .nilIface
  | agg {cs cs' : List Value} (h : VRels ρ cs cs') : VRel ρ (.agg ⟨cs⟩) (.agg ⟨cs'⟩)
  | tuple {cs cs' : List Value} (h : VRels ρ cs cs') : VRel ρ (.tuple ⟨cs⟩) (.tuple ⟨cs'⟩)
inductive VRels (ρ : Ren) : List Value → List Value → Prop
  | nil : VRels ρ [] []
  | cons {v v' : Value} {vs vs' : List Value} (h : VRel ρ v v') (hs : VRels ρ vs vs') : VRels ρ (v :: vs) (v' :: vs')
end

/-- The renaming grows: nothing that has a place gets another one. -/
def Grows (ρ ρ' : Ren) : Prop := ∀ i l, ρ i = some l → ρ' i = some l

theorem Grows.refl (ρ : Ren) : Grows ρ ρ := fun _ _ h => h
theorem Grows.trans {a b c : Ren} (h : Grows a b) (k : Grows b c) : Grows a c := fun i l hi => k i l (h i l hi)

mutual
theorem VRel.mono {ρ ρ' : Ren} (g : Grows ρ ρ') : ∀ {v v' : Value}, VRel ρ v v' → VRel ρ' v v'
  | _, _, .bool b => .bool b
  | _, _, .int k n => .int k n
  | _, _, .float k n => .float k n
  | _, _, .string s => .string s
  | _, _, .nilPtr => .nilPtr
  | _, _, .ptr h => .ptr (g _ _ h)
  | _, _, .nilSlice => .nilSlice
  | _, _, .slice h hn hc ho hr => .slice (g _ _ h) hn hc ho hr
  | _, _, .nilMap => .nilMap
  | _, _, .map h => .map (g _ _ h)
  | _, _, .func hp hf hc => .func hp (VRels.mono g hf) (VRels.mono g hc)
  | _, _, .yield h => .yield (g _ _ h)
  | _, _, .nilFunc => .nilFunc
  | _, _, .iface h => .iface (VRel.mono g h)
  | _, _, .nilIface => .nilIface
  | _, _, .agg h => .agg (VRels.mono g h)
  | _, _, .tuple h => .tuple (VRels.mono g h)
theorem VRels.mono {ρ ρ' : Ren} (g : Grows ρ ρ') : ∀ {v v' : List Value}, VRels ρ v v' → VRels ρ' v v'
  | _, _, .nil => .nil
  | _, _, .cons h hs => .cons (VRel.mono g h) (VRels.mono g hs)
end

theorem VRels.length {ρ : Ren} : ∀ {vs vs' : List Value}, VRels ρ vs vs' → vs.length = vs'.length
  | _, _, .nil => rfl
  | _, _, .cons _ hs => by simp [VRels.length hs]

theorem VRels.get {ρ : Ren} : ∀ {vs vs' : List Value}, VRels ρ vs vs' → ∀ {i : Nat} {v : Value}, vs[i]? = some v → ∃ v', vs'[i]? = some v' ∧ VRel ρ v v'
  | _, _, .nil, i, v, h => by simp at h
  | _, _, .cons h hs, 0, v, hi => by simp at hi; subst hi; exact ⟨_, rfl, h⟩
  | _, _, .cons h hs, i + 1, v, hi => by simp at hi; simpa using VRels.get hs hi

theorem VRels.of_get {ρ : Ren} : ∀ {vs vs' : List Value}, vs.length = vs'.length → (∀ (i : Nat) v v', vs[i]? = some v → vs'[i]? = some v' → VRel ρ v v') → VRels ρ vs vs'
  | [], [], _, _ => .nil
  | v :: vs, v' :: vs', hl, h => .cons (h 0 v v' rfl rfl) (VRels.of_get (by simpa using hl) fun i x x' hx hx' => h (i + 1) x x' (by simpa using hx) (by simpa using hx'))

theorem VRels.append {ρ : Ren} : ∀ {a a' b b' : List Value}, VRels ρ a a' → VRels ρ b b' → VRels ρ (a ++ b) (a' ++ b')
  | _, _, _, _, .nil, h => h
  | _, _, _, _, .cons h hs, k => .cons h (VRels.append hs k)

theorem VRels.take {ρ : Ren} : ∀ {a a' : List Value} (n : Nat), VRels ρ a a' → VRels ρ (a.take n) (a'.take n)
  | _, _, 0, _ => by simp; exact .nil
  | _, _, n + 1, .nil => by simp; exact .nil
  | _, _, n + 1, .cons h hs => by simp; exact .cons h (VRels.take n hs)

theorem VRels.drop {ρ : Ren} : ∀ {a a' : List Value} (n : Nat), VRels ρ a a' → VRels ρ (a.drop n) (a'.drop n)
  | _, _, 0, h => by simpa using h
  | _, _, n + 1, .nil => by simp; exact .nil
  | _, _, n + 1, .cons h hs => by simpa using VRels.drop n hs

theorem VRels.set {ρ : Ren} : ∀ {a a' : List Value} (n : Nat) {v v' : Value}, VRels ρ a a' → VRel ρ v v' → VRels ρ (a.set n v) (a'.set n v')
  | _, _, _, _, _, .nil, _ => by simp; exact .nil
  | _, _, 0, _, _, .cons h hs, k => .cons k hs
  | _, _, n + 1, _, _, .cons h hs, k => .cons h (VRels.set n hs k)

theorem VRels.replicate {ρ : Ren} {v v' : Value} (h : VRel ρ v v') : ∀ n, VRels ρ (List.replicate n v) (List.replicate n v')
  | 0 => .nil
  | n + 1 => .cons h (VRels.replicate h n)

/-- Values that hold no address. -/
def flat : Value → Bool
  | .bool _ | .int .. | .float .. | .string _ | .pointer none | .slice none 0 0 | .map none | .nilFunc | .nilIface => true
  | _ => false

def flats : List Value → Bool
  | [] => true
  | v :: vs => flat v && flats vs

/-- Flat values, and aggregates and tuples of them. -/
def flat2 : Value → Bool
  | .agg ⟨cs⟩ | .tuple ⟨cs⟩ => flats cs
  | v => flat v

theorem VRel.of_flat {ρ : Ren} {v : Value} (h : flat v = true) : VRel ρ v v := by
  unfold flat at h
  split at h <;> first | exact .bool _ | exact .int _ _ | exact .float _ _ | exact .string _ | exact .nilPtr | exact .nilSlice | exact .nilMap | exact .nilFunc | exact .nilIface | cases h

theorem VRels.of_flats {ρ : Ren} : ∀ {vs : List Value}, flats vs = true → VRels ρ vs vs
  | [], _ => .nil
  | v :: vs, h => by
    simp only [flats, Bool.and_eq_true] at h
    exact .cons (VRel.of_flat h.1) (VRels.of_flats h.2)

theorem VRel.of_flat2 {ρ : Ren} {v : Value} (h : flat2 v = true) : VRel ρ v v := by
  unfold flat2 at h
  split at h
  · exact .agg (VRels.of_flats h)
  · exact .tuple (VRels.of_flats h)
  · exact VRel.of_flat h

theorem VRel.eq_of_flat {ρ : Ren} {v v' : Value} (h : flat v = true) (r : VRel ρ v v') : v' = v := by
  cases r <;> first | rfl | simp [flat] at h

theorem VRels.eq_of_flats {ρ : Ren} : ∀ {vs vs' : List Value}, flats vs = true → VRels ρ vs vs' → vs' = vs
  | _, _, _, .nil => rfl
  | _, _, h, .cons r rs => by
    simp only [flats, Bool.and_eq_true] at h
    rw [VRel.eq_of_flat h.1 r, VRels.eq_of_flats h.2 rs]

theorem VRel.eq_of_flat2 {ρ : Ren} {v v' : Value} (h : flat2 v = true) (r : VRel ρ v v') : v' = v := by
  cases r with
  | agg hs => rw [VRels.eq_of_flats (by simpa [flat2] using h) hs]
  | tuple hs => rw [VRels.eq_of_flats (by simpa [flat2] using h) hs]
  | _ => first | rfl | simp [flat2, flat] at h

/-- Is it the value of one cell? -/
def one : Value → Bool
  | .agg _ | .tuple _ => false
  | _ => true

theorem VRel.one {ρ : Ren} {v v' : Value} (r : VRel ρ v v') : one v' = one v := by cases r <;> rfl

theorem VRel.cells {ρ : Ren} {v v' : Value} (r : VRel ρ v v') : VRels ρ v.cells.toList v'.cells.toList := by
  cases r with
  | agg h => exact h
  | bool b => exact .cons (.bool b) .nil
  | int k n => exact .cons (.int k n) .nil
  | float k n => exact .cons (.float k n) .nil
  | string s => exact .cons (.string s) .nil
  | nilPtr => exact .cons .nilPtr .nil
  | ptr h => exact .cons (.ptr h) .nil
  | nilSlice => exact .cons .nilSlice .nil
  | slice h a b c d => exact .cons (.slice h a b c d) .nil
  | nilMap => exact .cons .nilMap .nil
  | map h => exact .cons (.map h) .nil
  | func a b c => exact .cons (.func a b c) .nil
  | yield h => exact .cons (.yield h) .nil
  | nilFunc => exact .cons .nilFunc .nil
  | iface h => exact .cons (.iface h) .nil
  | nilIface => exact .cons .nilIface .nil
  | tuple h => exact .cons (.tuple h) .nil

/-- The memory of the reference: a tree of objects by their names. -/
inductive Tr (α : Type) where
  | e
  | n (l : Tr α) (v : Option α) (r : Tr α)

def Tr.get {α : Type} : Tr α → Nat → Option α
  | .e, _ => none
  | .n l v r, k => bif Nat.beq k 0 then v else bif Nat.beq (k % 2) 1 then l.get (k / 2) else r.get (k / 2 - 1)

def Tr.set {α : Type} : Nat → Tr α → Nat → Option α → Option (Tr α)
  | 0, _, _, _ => none
  | f + 1, .e, k, v =>
    bif Nat.beq k 0 then some (.n .e v .e)
    else bif Nat.beq (k % 2) 1 then (match Tr.set f .e (k / 2) v with | some l => some (.n l none .e) | none => none)
    else (match Tr.set f .e (k / 2 - 1) v with | some r => some (.n .e none r) | none => none)
  | f + 1, .n l x r, k, v =>
    bif Nat.beq k 0 then some (.n l v r)
    else bif Nat.beq (k % 2) 1 then (match Tr.set f l (k / 2) v with | some l => some (.n l x r) | none => none)
    else (match Tr.set f r (k / 2 - 1) v with | some r => some (.n l x r) | none => none)

theorem Tr.get_e {α : Type} (k : Nat) : (Tr.e : Tr α).get k = none := rfl

theorem beq_iff {a b : Nat} : Nat.beq a b = decide (a = b) := by
  by_cases h : a = b
  · subst h; simp
  · rw [decide_eq_false h]
    cases hb : Nat.beq a b with
    | false => rfl
    | true => exact absurd (Nat.eq_of_beq_eq_true hb) h

theorem Tr.get_set {α : Type} : ∀ (f : Nat) (t : Tr α) (k : Nat) (v : Option α) (t' : Tr α), Tr.set f t k v = some t' → ∀ j, t'.get j = if j = k then v else t.get j
  | 0, _, _, _, _, h, _ => by simp [Tr.set] at h
  | f + 1, .e, k, v, t', h, j => by
    simp only [Tr.set, beq_iff, cond_eq_ite, decide_eq_true_eq] at h
    split at h
    · rename_i hk; subst hk; injection h with h; subst h
      simp only [Tr.get, beq_iff, cond_eq_ite, decide_eq_true_eq]
      split
      · rfl
      · split <;> rfl
    · split at h
      · rename_i hk ho
        split at h
        · rename_i l hl; injection h with h; subst h
          have ih := Tr.get_set f .e (k / 2) v l hl
          simp only [Tr.get, beq_iff, cond_eq_ite, decide_eq_true_eq]
          by_cases hj : j = 0
          · subst hj; rw [if_pos rfl, if_neg (by omega)]
          · rw [if_neg hj]
            by_cases hj2 : j % 2 = 1
            · rw [if_pos hj2, ih (j / 2)]
              by_cases he : j = k
              · subst he; simp
              · rw [if_neg he, if_neg (by omega)]; rfl
            · rw [if_neg hj2, if_neg (by omega)]
        · cases h
      · rename_i hk ho
        split at h
        · rename_i l hl; injection h with h; subst h
          have ih := Tr.get_set f .e (k / 2 - 1) v l hl
          simp only [Tr.get, beq_iff, cond_eq_ite, decide_eq_true_eq]
          by_cases hj : j = 0
          · subst hj; rw [if_pos rfl, if_neg (by omega)]
          · rw [if_neg hj]
            by_cases hj2 : j % 2 = 1
            · rw [if_pos hj2, if_neg (by omega)]
            · rw [if_neg hj2, ih (j / 2 - 1)]
              by_cases he : j = k
              · subst he; simp
              · rw [if_neg he, if_neg (by omega)]; rfl
        · cases h
  | f + 1, .n l x r, k, v, t', h, j => by
    simp only [Tr.set, beq_iff, cond_eq_ite, decide_eq_true_eq] at h
    split at h
    · rename_i hk; subst hk; injection h with h; subst h
      simp only [Tr.get, beq_iff, cond_eq_ite, decide_eq_true_eq]
      by_cases hj : j = 0
      · subst hj; simp
      · rw [if_neg hj, if_neg hj, if_neg hj]
    · split at h
      · rename_i hk ho
        split at h
        · rename_i l' hl; injection h with h; subst h
          have ih := Tr.get_set f l (k / 2) v l' hl
          simp only [Tr.get, beq_iff, cond_eq_ite, decide_eq_true_eq]
          by_cases hj : j = 0
          · subst hj; rw [if_pos rfl, if_neg (by omega), if_pos rfl]
          · rw [if_neg hj, if_neg hj]
            by_cases hj2 : j % 2 = 1
            · rw [if_pos hj2, if_pos hj2, ih (j / 2)]
              by_cases he : j = k
              · subst he; simp
              · rw [if_neg he, if_neg (by omega)]
            · rw [if_neg hj2, if_neg hj2, if_neg (by omega)]
        · cases h
      · rename_i hk ho
        split at h
        · rename_i l' hl; injection h with h; subst h
          have ih := Tr.get_set f r (k / 2 - 1) v l' hl
          simp only [Tr.get, beq_iff, cond_eq_ite, decide_eq_true_eq]
          by_cases hj : j = 0
          · subst hj; rw [if_pos rfl, if_neg (by omega), if_pos rfl]
          · rw [if_neg hj, if_neg hj]
            by_cases hj2 : j % 2 = 1
            · rw [if_pos hj2, if_pos hj2, if_neg (by omega)]
            · rw [if_neg hj2, if_neg hj2, ih (j / 2 - 1)]
              by_cases he : j = k
              · subst he; simp
              · rw [if_neg he, if_neg (by omega)]
        · cases h

end Go.Ev
end

section
/- A ground evaluator for closed calls, part B: the reference's memory and the true one. -/
namespace Go.Ev
open Go.RowKit

/-- An entry of a map and the true one: the same flat key, the same stamp. -/
structure ERel (ρ : Ren) (e e' : MapEntry) : Prop where
  key : e'.key = e.key
  fkey : flat2 e.key = true
  val : VRel ρ e.val e'.val
  born : e'.born = e.born

inductive ERels (ρ : Ren) : List MapEntry → List MapEntry → Prop
  | nil : ERels ρ [] []
  | cons {e e' : MapEntry} {es es' : List MapEntry} (h : ERel ρ e e') (hs : ERels ρ es es') : ERels ρ (e :: es) (e' :: es')

/-- An entry of a map whose stamps are unknown, and the true one. -/
structure NRel (ρ : Ren) (e e' : MapEntry) : Prop where
  key : e'.key = e.key
  fkey : flat2 e.key = true
  val : VRel ρ e.val e'.val

inductive NRels (ρ : Ren) : List MapEntry → List MapEntry → Prop
  | nil : NRels ρ [] []
  | cons {e e' : MapEntry} {es es' : List MapEntry} (h : NRel ρ e e') (hs : NRels ρ es es') : NRels ρ (e :: es) (e' :: es')

theorem NRels.mono {ρ ρ' : Ren} (g : Grows ρ ρ') : ∀ {es es' : List MapEntry}, NRels ρ es es' → NRels ρ' es es'
  | _, _, .nil => .nil
  | _, _, .cons h hs => .cons ⟨h.key, h.fkey, h.val.mono g⟩ (NRels.mono g hs)

theorem ERels.toN {ρ : Ren} : ∀ {es es' : List MapEntry}, ERels ρ es es' → NRels ρ es es'
  | _, _, .nil => .nil
  | _, _, .cons h hs => .cons ⟨h.key, h.fkey, h.val⟩ hs.toN

theorem NRels.append {ρ : Ren} : ∀ {a a' b b' : List MapEntry}, NRels ρ a a' → NRels ρ b b' → NRels ρ (a ++ b) (a' ++ b')
  | _, _, _, _, .nil, h => h
  | _, _, _, _, .cons h hs, k => .cons h (NRels.append hs k)

/-- Entries in another order. -/
theorem NRels.perm {ρ : Ren} {a b : List MapEntry} (p : a.Perm b) : ∀ {a' : List MapEntry}, NRels ρ a a' → ∃ b', NRels ρ b b' ∧ a'.Perm b' := by
  induction p with
  | nil => intro a' h; exact ⟨a', h, .refl _⟩
  | cons x p ih =>
    intro a' h
    cases h with
    | cons h hs =>
      obtain ⟨b', h1, h2⟩ := ih hs
      exact ⟨_ :: b', .cons h h1, h2.cons _⟩
  | swap x y l =>
    intro a' h
    cases h with
    | cons h hs =>
      cases hs with
      | cons k ks => exact ⟨_, .cons k (.cons h ks), .swap _ _ _⟩
  | trans p q ih1 ih2 =>
    intro a' h
    obtain ⟨b', h1, h2⟩ := ih1 h
    obtain ⟨c', h3, h4⟩ := ih2 h1
    exact ⟨c', h3, h2.trans h4⟩

/-- Cells without aggregates. -/
def ones : List Value → Bool
  | [] => true
  | v :: vs => one v && ones vs

/-- A loop over a function, as the reference has it. -/
structure RLoop where
  state : LoopState
  pending : Option Code
  σ : Tr Value
  N : Nat
  params : List Tmp
  assign : Code
  body : Code
  defers : Nat

/-- An object of the reference. -/
inductive RO where
  | cells (es : ES) (c : List Value)
  | froz (fz : Nat) (es : ES) (c : List Value)
  | map (es : List MapEntry) (clock : Nat)
  | pmap (es : List MapEntry)
  | stringIter (s : ByteArray) (pos : Nat)
  | mapIter (m : Option Nat) (since : Nat) (seen : List Nat) (stepped : Nat)
  | loop (l : RLoop)
  | deferred

noncomputable def getR {α : Type} (t : Tr α) : Nat → Option α :=
  Tr.rec (motive := fun _ => Nat → Option α) (fun _ => none)
    (fun _ v _ gl gr k => Bool.rec (Bool.rec (gr (Nat.sub (Nat.div k 2) 1)) (gl (Nat.div k 2)) (Nat.beq (Nat.mod k 2) 1)) v (Nat.beq k 0)) t

def orUndef : Option Value → Value
  | some v => v
  | none => undef

noncomputable def tmp (σ : Tr Value) (t : Nat) : Value := orUndef (getR σ t)

/-- The temporaries of both. -/
def SRel (ρ : Ren) (σ : Tr Value) (tm : Array Value) : Prop := ∀ t, VRel ρ (tmp σ t) (tm.getD t undef)

theorem SRel.mono {ρ ρ' : Ren} {σ : Tr Value} {tm : Array Value} (g : Grows ρ ρ') (h : SRel ρ σ tm) : SRel ρ' σ tm := fun t => (h t).mono g

/-- A loop of the reference and the true one. -/
structure LRel (ρ : Ren) (L : RLoop) (r : Loop) : Prop where
  state : r.state = L.state
  pending : r.pending = L.pending
  size : r.tmps.size = L.N
  tmps : SRel ρ L.σ r.tmps
  params : r.params.toList = L.params
  assign : r.assign = L.assign
  body : r.body = L.body
  defers : ∃ l, ρ L.defers = some l ∧ l.g = r.defers

theorem LRel.mono {ρ ρ' : Ren} {L : RLoop} {r : Loop} (g : Grows ρ ρ') (h : LRel ρ L r) : LRel ρ' L r :=
  ⟨h.state, h.pending, h.size, h.tmps.mono g, h.params, h.assign, h.body, let ⟨l, a, b⟩ := h.defers; ⟨l, g _ _ a, b⟩⟩

inductive ORel (ρ : Ren) (l : Loc) : RO → Obj → Prop
  | cells {c c' : List Value} {T : TypeId} {fr : Nat × Nat} (hz : c'.length = l.sz) (hs : l.sh + c.length ≤ l.sz) (ho : ones c = true) (hf : ∀ k, k < l.sz → ¬ (fr.1 ≤ k ∧ k < fr.2))
      (h : VRels ρ c ((c'.drop l.sh).take c.length)) (hT : ∀ t, l.es.t = some t → T = t ∧ fr.1 = fr.2) (hw : l.es.whole = true → l.sh = 0 ∧ l.sz = c.length) : ORel ρ l (.cells l.es c) (.cells ⟨c'⟩ T fr)
  | froz {fz : Nat} {c c' : List Value} {T : TypeId} {fr : Nat × Nat} (hz : c'.length = l.sz) (hs : l.sh + c.length ≤ l.sz) (ho : ones c = true) (hf : ∀ k, k < l.sz → fr.1 ≤ k → k < fr.2 → k < l.sh + fz)
      (h : VRels ρ c ((c'.drop l.sh).take c.length)) (hT : ∀ t, l.es.t = some t → T = t ∧ (fr.1 = fr.2 ∨ fr.2 ≤ l.sh + fz)) : ORel ρ l (.froz fz l.es c) (.cells ⟨c'⟩ T fr)
  | map {es es' : List MapEntry} {k : Nat} (h : ERels ρ es es') : ORel ρ l (.map es k) (.map ⟨es'⟩ k)
  | pmap {es es2 es' : List MapEntry} {k : Nat} (h : NRels ρ es es2) (hp : es2.Perm es') : ORel ρ l (.pmap es) (.map ⟨es'⟩ k)
  | stringIter (hz : l.sh = 0) (s : ByteArray) (pos : Nat) : ORel ρ l (.stringIter s pos) (.stringIter s pos)
  | mapIter (hz : l.sh = 0) {m : Nat} {lm : Loc} (h : ρ m = some lm) (since : Nat) (seen : List Nat) (stepped : Nat) : ORel ρ l (.mapIter (some m) since seen stepped) (.mapIter (some lm.g) since ⟨seen⟩ stepped)
  | nilIter (hz : l.sh = 0) (since : Nat) (seen : List Nat) (stepped : Nat) : ORel ρ l (.mapIter none since seen stepped) (.mapIter none since ⟨seen⟩ stepped)
  | loop {L : RLoop} {r : Loop} (h : LRel ρ L r) : ORel ρ l (.loop L) (.loop r)
  | deferred : ORel ρ l .deferred (.deferred (some []))

theorem ERels.mono {ρ ρ' : Ren} (g : Grows ρ ρ') : ∀ {es es' : List MapEntry}, ERels ρ es es' → ERels ρ' es es'
  | _, _, .nil => .nil
  | _, _, .cons h hs => .cons ⟨h.key, h.fkey, h.val.mono g, h.born⟩ (ERels.mono g hs)

theorem ORel.mono {ρ ρ' : Ren} {l : Loc} {o : RO} {o' : Obj} (g : Grows ρ ρ') (h : ORel ρ l o o') : ORel ρ' l o o' := by
  cases h with
  | cells a b c d e hT hw => exact .cells a b c d (e.mono g) hT hw
  | froz a b c d e hT => exact .froz a b c d (e.mono g) hT
  | map h => exact .map (h.mono g)
  | pmap h p => exact .pmap (h.mono g) p
  | stringIter z s p => exact .stringIter z s p
  | mapIter z h a b c => exact .mapIter z (g _ _ h) a b c
  | nilIter z a b c => exact .nilIter z a b c
  | loop h => exact .loop (h.mono g)
  | deferred => exact .deferred

/-- A memory of the reference. -/
abbrev Mem := Nat → Option RO

/-- The true memory holds what the reference's holds, each named block in a block of its own. -/
structure HRel (ρ : Ren) (h : Mem) (w : World) : Prop where
  at_ : ∀ i o, h i = some o → ∃ l o', ρ i = some l ∧ w.heap[l.g]? = some o' ∧ ORel ρ l o o'
  inj : ∀ i j li lj, h i ≠ none → h j ≠ none → ρ i = some li → ρ j = some lj → li.g = lj.g → i = j

/-- The true blocks that the reference's memory names. -/
def Named (ρ : Ren) (h : Mem) (g : Nat) : Prop := ∃ i l, h i ≠ none ∧ ρ i = some l ∧ l.g = g

/-- From one state of both memories to another: names from n to before n' are new, no other name has moved; of the true memory only named and new blocks have changed. -/
structure Goes (ρ : Ren) (h : Mem) (n : Nat) (w : World) (ρ' : Ren) (h' : Mem) (n' : Nat) (w' : World) : Prop where
  le : n ≤ n'
  ext : ∀ i, ¬ (n ≤ i ∧ i < n') → ρ' i = ρ i
  rel : HRel ρ' h' w'
  os : w'.os = w.os
  tape : w'.tape = w.tape
  output : w'.output = w.output
  size : w.heap.size ≤ w'.heap.size
  block : ∀ g, g < w.heap.size → ¬ Named ρ h g → w'.heap[g]? = w.heap[g]?
  own : ∀ g, Named ρ' h' g → w.heap.size ≤ g ∨ Named ρ h g

def Fresh (ρ : Ren) (n n' : Nat) : Prop := ∀ i, n ≤ i → i < n' → ρ i = none

theorem Goes.refl {ρ : Ren} {h : Mem} {n : Nat} {w : World} (k : HRel ρ h w) : Goes ρ h n w ρ h n w :=
  ⟨Nat.le_refl _, fun _ _ => rfl, k, rfl, rfl, rfl, Nat.le_refl _, fun _ _ _ => rfl, fun _ h => .inr h⟩

theorem Goes.trans {ρ₁ ρ₂ ρ₃ : Ren} {h₁ h₂ h₃ : Mem} {n₁ n₂ n₃ : Nat} {w₁ w₂ w₃ : World}
    (a : Goes ρ₁ h₁ n₁ w₁ ρ₂ h₂ n₂ w₂) (b : Goes ρ₂ h₂ n₂ w₂ ρ₃ h₃ n₃ w₃) : Goes ρ₁ h₁ n₁ w₁ ρ₃ h₃ n₃ w₃ where
  le := Nat.le_trans a.le b.le
  ext i hi := by
    have := a.le; have := b.le
    rw [b.ext i (by omega), a.ext i (by omega)]
  rel := b.rel
  os := b.os.trans a.os
  tape := b.tape.trans a.tape
  output := b.output.trans a.output
  size := Nat.le_trans a.size b.size
  block g hg hn := by
    rw [b.block g (Nat.lt_of_lt_of_le hg a.size) (fun h => ?_), a.block g hg hn]
    rcases a.own g h with h | h
    · omega
    · exact hn h
  own g hg := by
    rcases b.own g hg with h | h
    · exact .inl (Nat.le_trans a.size h)
    · exact a.own g h

theorem Goes.grows {ρ ρ' : Ren} {h h' : Mem} {n n' : Nat} {w w' : World} (k : Goes ρ h n w ρ' h' n' w') (f : Fresh ρ n n') : Grows ρ ρ' := by
  intro i l hi
  by_cases hr : n ≤ i ∧ i < n'
  · rw [f i hr.1 hr.2] at hi; cases hi
  · rw [k.ext i hr]; exact hi

theorem Goes.fresh {ρ ρ' : Ren} {h h' : Mem} {n n' n'' : Nat} {w w' : World} (k : Goes ρ h n w ρ' h' n' w') (f : Fresh ρ n n'') : Fresh ρ' n' n'' := by
  intro i h1 h2
  have := k.le
  rw [k.ext i (by omega)]
  exact f i (by omega) h2

theorem Fresh.left {ρ : Ren} {n n' n'' : Nat} (f : Fresh ρ n n'') (h : n' ≤ n'') : Fresh ρ n n' := fun i a b => f i a (by omega)

/-- Nothing that was there before has turned. -/
theorem Goes.below {ρ ρ' : Ren} {h' : Mem} {n n' : Nat} {w w' : World} (k : Goes ρ (fun _ => none) n w ρ' h' n' w') : Below w.heap.size w w' where
  os := k.os
  tape := k.tape
  output := k.output
  size := k.size
  block g hg := k.block g hg (by rintro ⟨i, l, h, _⟩; exact h rfl)

end Go.Ev
end

