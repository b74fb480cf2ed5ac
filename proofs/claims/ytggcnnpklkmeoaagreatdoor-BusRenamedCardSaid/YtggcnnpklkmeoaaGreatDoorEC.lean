/- A ground evaluator for closed calls, part D: steps of the machine in frames of any kind. -/
import Derived.Test.YtggcnnpklkmeoaaGreatDoorEB
import Derived.Laws.Cells
import Derived.Laws.CopyRow
section
namespace Go.Ev

/-- A frame that runs. -/
def fat (b : Frame) (tm : Array Value) (k : List Item) : Frame := { b with tmps := tm, todo := k, mode := .run }

def evalT (tm : Array Value) : Operand → Value
  | .tmp t => tm.getD t undef
  | .const v => v
  | .global g => .pointer (some ⟨g, 0, none⟩)
  | .func f => .func (.func f) #[] #[]

theorem eval_fat (b : Frame) (tm : Array Value) (k : List Item) : (fat b tm k).eval = evalT tm := by
  funext x; cases x <;> rfl

def put (tm : Array Value) (dst : Option Tmp) (v : Value) : Array Value :=
  match dst with
  | some d => tm.setIfInBounds d v
  | none => tm

section
variable {P : Program} {b : Frame} {tm : Array Value} {k : List Item} {cs : List Frame} {w : World}

theorem st_skip : step P (lone (fat b tm (.code .skip :: k)) cs w) = .next (lone (fat b tm k) cs w) :=
  step_lone_go (by simp [stepG, stepG.exec, fat])

theorem st_label {l : Nat} : step P (lone (fat b tm (.code (.label l) :: k)) cs w) = .next (lone (fat b tm k) cs w) :=
  step_lone_go (by simp [stepG, stepG.exec, fat])

theorem st_inBlock {id : Nat} : step P (lone (fat b tm (.inBlock id :: k)) cs w) = .next (lone (fat b tm k) cs w) :=
  step_lone_go (by simp [stepG, stepG.exec, fat])

theorem st_seq {x y : Code} : step P (lone (fat b tm (.code (.seq x y) :: k)) cs w) = .next (lone (fat b tm (.code x :: .code y :: k)) cs w) :=
  step_lone_go (by simp [stepG, stepG.exec, fat])

theorem st_cond {c : Operand} {x y : Code} {t : Bool} (h : evalT tm c = .bool t) :
    step P (lone (fat b tm (.code (.cond c x y) :: k)) cs w) = .next (lone (fat b tm (.code (if t then x else y) :: k)) cs w) :=
  step_lone_go (by
    have := congrFun (eval_fat b tm (.code (.cond c x y) :: k)) c
    simp only [fat] at this
    simp [stepG, stepG.exec, fat, this, h])

theorem st_block {id : Nat} {c : Code} : step P (lone (fat b tm (.code (.block id c) :: k)) cs w) = .next (lone (fat b tm (.code c :: .inBlock id :: k)) cs w) :=
  step_lone_go (by simp [stepG, stepG.exec, fat])

theorem st_scope {c : Code} : step P (lone (fat b tm (.code (.scope c) :: k)) cs w) = .next (lone (fat b tm (.code c :: .inScope c :: k)) cs w) :=
  step_lone_go (by simp [stepG, stepG.exec, fat])

theorem st_inScope {c : Code} : step P (lone (fat b tm (.inScope c :: k)) cs w) = .next (lone (fat b tm k) cs w) :=
  step_lone_go (by simp [stepG, stepG.exec, fat])

theorem st_loop {c : Code} : step P (lone (fat b tm (.code (.loop c) :: k)) cs w) = .next (lone (fat b tm (.code c :: .inLoop c :: k)) cs w) :=
  step_lone_go (by simp [stepG, stepG.exec, fat])

theorem st_inLoop {c : Code} : step P (lone (fat b tm (.inLoop c :: k)) cs w) = .next (lone (fat b tm (.code c :: .inLoop c :: k)) cs w) :=
  step_lone_go (by simp [stepG, stepG.exec, fat])

theorem st_exit {id : Nat} {k' : List Item} (h : exitTo id k = some k') :
    step P (lone (fat b tm (.code (.exit id) :: k)) cs w) = .next (lone (fat b tm k') cs w) :=
  step_lone_go (by simp [stepG, stepG.exec, fat, h])

theorem st_ret (hr : b.roundOf = none) :
    step P (lone (fat b tm (.code .ret :: k)) cs w) = .next (lone { fat b tm (.code .ret :: k) with mode := .returning } cs w) :=
  step_lone_go (by simp [stepG, stepG.exec, fat, hr])

theorem st_end (hr : b.roundOf = none) :
    step P (lone (fat b tm []) cs w) = .next (lone { fat b tm [] with mode := .returning } cs w) :=
  step_lone_go (by simp [stepG, stepG.exec, fat, hr])

theorem st_region {id : Nat} {ops : Array Oper} :
    step P (lone (fat b tm (.code (.region id ops false) :: k)) cs w) = .next (lone (fat b tm (.inRegion ops (List.range ops.size) :: k)) cs w) :=
  step_lone_go (by simp [stepG, stepG.exec, fat])

theorem st_region_draw {id : Nat} {ops : Array Oper} :
    step P (lone (fat b tm (.code (.region id ops true) :: k)) cs w) =
      .next (lone (fat b tm (.inRegion ops (Region.schedule (P.follows .mixedOrders) ops (w.tape w.drawn (.order b.fn id))) :: k)) cs { w with drawn := w.drawn + 1 }) :=
  step_lone_go (by simp [stepG, stepG.exec, fat, choose, Sem.run, Question.forced, Question.cut])

theorem st_region_end {ops : Array Oper} : step P (lone (fat b tm (.inRegion ops [] :: k)) cs w) = .next (lone (fat b tm k) cs w) :=
  step_lone_go (by simp [stepG, stepG.exec, fat])

theorem finish_fat (ops : Array Oper) (i : Nat) (rest : List Nat) (v : Value) :
    (fat b tm (.inRegion ops (i :: rest) :: k)).finish v = fat b (put tm ((ops[i]?).bind (·.dst)) v) (.inRegion ops rest :: k) := by
  cases h : (ops[i]?).bind (·.dst) <;> simp [Frame.finish, fat, put, h]

theorem st_op_skip {ops : Array Oper} {i : Nat} {rest : List Nat} (h : ((ops[i]?).map (Region.wanted · (yielded ops tm))).getD false = false) :
    step P (lone (fat b tm (.inRegion ops (i :: rest) :: k)) cs w) =
      .next (lone (fat b (put tm ((ops[i]?).bind (·.dst)) undef) (.inRegion ops rest :: k)) cs w) := by
  rw [← finish_fat]
  exact step_lone_go (by
    have h' := h
    simp only [fat] at *
    simp [stepG, stepG.exec, h'])

def notDefer : Op → Bool
  | .defer _ => false
  | _ => true

theorem stG_op {ops : Array Oper} {i : Nat} {rest : List Nat} {o : Oper} (ho : ops[i]? = some o) (hw : Region.wanted o (yielded ops tm) = true) (hd : notDefer o.op = true) :
    stepG P true { frame := fat b tm (.inRegion ops (i :: rest) :: k), callers := cs, status := .running, dying := none } w =
      stepG.apply P true (fat b tm (.inRegion ops (i :: rest) :: k)) cs none (execOp (evalT tm) o) w := by
  have he := eval_fat b tm (.inRegion ops (i :: rest) :: k)
  simp only [fat] at he
  cases hop : o.op <;> simp [notDefer, hop] at hd <;> simp [stepG, stepG.exec, stepG.oper, Frame.oper?, fat, ho, hw, he, hop]

theorem st_value {ops : Array Oper} {i : Nat} {rest : List Nat} {o : Oper} {v : Value} {w' : World} (ho : ops[i]? = some o) (hw : Region.wanted o (yielded ops tm) = true) (hd : notDefer o.op = true)
    (hr : (execOp (evalT tm) o).run P w = .ok (.value v) w') :
    step P (lone (fat b tm (.inRegion ops (i :: rest) :: k)) cs w) = .next (lone (fat b (put tm o.dst v) (.inRegion ops rest :: k)) cs w') := by
  have hfin : (fat b tm (.inRegion ops (i :: rest) :: k)).finish v = fat b (put tm o.dst v) (.inRegion ops rest :: k) := by rw [finish_fat, ho]; rfl
  refine step_lone_go ?_
  rw [stG_op ho hw hd, ← hfin]; simp [stepG.apply, hr]

theorem st_none {ops : Array Oper} {i : Nat} {rest : List Nat} {o : Oper} {w' : World} (ho : ops[i]? = some o) (hw : Region.wanted o (yielded ops tm) = true) (hd : notDefer o.op = true)
    (hr : (execOp (evalT tm) o).run P w = .ok .skip w') :
    step P (lone (fat b tm (.inRegion ops (i :: rest) :: k)) cs w) = .next (lone (fat b (put tm o.dst undef) (.inRegion ops rest :: k)) cs w') := by
  have hfin : (fat b tm (.inRegion ops (i :: rest) :: k)).finish undef = fat b (put tm o.dst undef) (.inRegion ops rest :: k) := by rw [finish_fat, ho]; rfl
  refine step_lone_go ?_
  rw [stG_op ho hw hd, ← hfin]; simp [stepG.apply, hr]

theorem st_enter {ops : Array Oper} {i : Nat} {rest : List Nat} {o : Oper} {f : FuncId} {args : Array Value} {w' : World} (ho : ops[i]? = some o) (hw : Region.wanted o (yielded ops tm) = true) (hd : notDefer o.op = true)
    (hr : (execOp (evalT tm) o).run P w = .ok (.enter f args) w') :
    step P (lone (fat b tm (.inRegion ops (i :: rest) :: k)) cs w) = .next (lone (Frame.enter P f args .normal) (fat b tm (.inRegion ops (i :: rest) :: k) :: cs) w') := by
  refine step_lone_go ?_
  rw [stG_op ho hw hd]; simp [stepG.apply, hr, fat]

theorem st_round {ops : Array Oper} {i : Nat} {rest : List Nat} {o : Oper} {l : Nat} {f : FuncId} {tmps : Array Value} {c1 c2 : Code} {w' : World} (ho : ops[i]? = some o) (hw : Region.wanted o (yielded ops tm) = true) (hd : notDefer o.op = true)
    (hr : (execOp (evalT tm) o).run P w = .ok (.round l f tmps c1 c2) w') :
    step P (lone (fat b tm (.inRegion ops (i :: rest) :: k)) cs w) = .next (lone (Frame.round l f tmps c1 c2 .normal) (fat b tm (.inRegion ops (i :: rest) :: k) :: cs) w') := by
  refine step_lone_go ?_
  rw [stG_op ho hw hd]; simp [stepG.apply, hr]

end

theorem pureRun_run {α : Type} {P : Program} : ∀ {s : Sem α} {a : α}, pureRun P s = some a → ∀ w, s.run P w = .ok a w := by
  intro s
  induction s with
  | pure b => intro a h w; simp [pureRun] at h; subst h; rfl
  | program k ih => intro a h w; exact ih P (by simpa [pureRun] using h) w
  | mark m k ih => intro a h w; exact ih (by simpa [pureRun] using h) w
  | _ => intro a h w; simp [pureRun] at h

theorem nth_nil {α : Type} (n : Nat) : nth ([] : List α) n = none := rfl
theorem nth_zero {α : Type} (x : α) (xs : List α) : nth (x :: xs) 0 = some x := rfl
theorem nth_succ {α : Type} (x : α) (xs : List α) (n : Nat) : nth (x :: xs) (n + 1) = nth xs n := rfl

theorem nth_eq {α : Type} : ∀ (l : List α) (i : Nat), nth l i = l[i]?
  | [], _ => by simp [nth_nil]
  | _ :: _, 0 => rfl
  | x :: xs, n + 1 => by rw [nth_succ, nth_eq xs n]; simp

theorem consO_some {α : Type} {x : α} {r : Option (List α)} {l : List α} (h : consO x r = some l) : ∃ l', r = some l' ∧ l = x :: l' := by
  cases r with
  | none => cases h
  | some l' => injection h with h; exact ⟨l', rfl, h.symm⟩

theorem cut_00 {α : Type} (l : List α) : cut l 0 0 = some [] := by cases l <;> rfl
theorem cut_nil0 {α : Type} (n : Nat) : cut ([] : List α) 0 (n + 1) = none := rfl
theorem cut_nilS {α : Type} (o n : Nat) : cut ([] : List α) (o + 1) n = none := rfl
theorem cut_0S {α : Type} (x : α) (xs : List α) (n : Nat) : cut (x :: xs) 0 (n + 1) = consO x (cut xs 0 n) := rfl
theorem cut_S {α : Type} (x : α) (xs : List α) (o n : Nat) : cut (x :: xs) (o + 1) n = cut xs o n := rfl

theorem cut_eq {α : Type} : ∀ (l : List α) (o n : Nat) (r : List α), cut l o n = some r → r = (l.drop o).take n ∧ r.length = n ∧ o + n ≤ l.length
  | l, 0, 0, r, h => by rw [cut_00] at h; injection h with h; subst h; simp
  | [], 0, _ + 1, r, h => by rw [cut_nil0] at h; cases h
  | x :: xs, 0, n + 1, r, h => by
    rw [cut_0S] at h
    obtain ⟨r', hr, rfl⟩ := consO_some h
    obtain ⟨h1, h2, h3⟩ := cut_eq xs 0 n r' hr
    simp at h1 h3
    refine ⟨by simp [h1], by simp [h2], by simp; omega⟩
  | [], _ + 1, _, r, h => by rw [cut_nilS] at h; cases h
  | x :: xs, o + 1, n, r, h => by
    rw [cut_S] at h
    obtain ⟨h1, h2, h3⟩ := cut_eq xs o n r h
    refine ⟨by simpa using h1, h2, by simp; omega⟩

theorem lay_nn {α : Type} (xs : List α) : lay xs 0 [] = some xs := by cases xs <;> rfl
theorem lay_n0 {α : Type} (v : α) (vs : List α) : lay ([] : List α) 0 (v :: vs) = none := rfl
theorem lay_nS {α : Type} (o : Nat) (vs : List α) : lay ([] : List α) (o + 1) vs = none := rfl
theorem lay_0 {α : Type} (x : α) (xs : List α) (v : α) (vs : List α) : lay (x :: xs) 0 (v :: vs) = consO v (lay xs 0 vs) := rfl
theorem lay_S {α : Type} (x : α) (xs : List α) (o : Nat) (vs : List α) : lay (x :: xs) (o + 1) vs = consO x (lay xs o vs) := rfl

theorem lay_eq {α : Type} : ∀ (l : List α) (o : Nat) (vs r : List α), lay l o vs = some r → r = l.take o ++ vs ++ l.drop (o + vs.length) ∧ o + vs.length ≤ l.length
  | xs, 0, [], r, h => by rw [lay_nn] at h; injection h with h; subst h; simp
  | [], 0, _ :: _, r, h => by rw [lay_n0] at h; cases h
  | x :: xs, 0, v :: vs, r, h => by
    rw [lay_0] at h
    obtain ⟨r', hr, rfl⟩ := consO_some h
    obtain ⟨h1, h2⟩ := lay_eq xs 0 vs r' hr
    simp at h1 h2
    refine ⟨by simp [h1], by simp; omega⟩
  | [], _ + 1, _, r, h => by rw [lay_nS] at h; cases h
  | x :: xs, o + 1, vs, r, h => by
    rw [lay_S] at h
    obtain ⟨r', hr, rfl⟩ := consO_some h
    obtain ⟨h1, h2⟩ := lay_eq xs o vs r' hr
    refine ⟨by rw [h1]; simp [Nat.add_right_comm], by simp; omega⟩

theorem lenR_eq {α : Type} : ∀ (l : List α), lenR l = l.length
  | [] => rfl
  | x :: xs => by show lenR xs + 1 = _; rw [lenR_eq xs]; rfl

theorem flatsR_eq : ∀ (l : List Value), flatsR l = flats l
  | [] => rfl
  | x :: xs => by
    show Bool.rec false (flatsR xs) (flat x) = (flat x && flats xs)
    rw [flatsR_eq xs]; cases flat x <;> rfl

theorem flat2R_eq (v : Value) : flat2R v = flat2 v := by
  cases v <;> first | rfl | exact flatsR_eq _

theorem onesR_eq : ∀ (l : List Value), onesR l = ones l
  | [] => rfl
  | x :: xs => by
    show Bool.rec false (onesR xs) (one x) = (one x && ones xs)
    rw [onesR_eq xs]; cases one x <;> rfl

/-- The tree at a place below 2 ^ 61 - 1. -/
theorem getR_e {α : Type} (k : Nat) : getR (.e : Tr α) k = none := rfl
theorem getR_n {α : Type} (l : Tr α) (v : Option α) (r : Tr α) (k : Nat) :
    getR (.n l v r) k = if k = 0 then v else if k % 2 = 1 then getR l (k / 2) else getR r (k / 2 - 1) := by
  show (Bool.rec (motive := fun _ => Option α) (Bool.rec (motive := fun _ => Option α) (getR r (k / 2 - 1)) (getR l (k / 2)) (Nat.beq (k % 2) 1)) v (Nat.beq k 0)) = _
  rw [beq_iff, beq_iff]
  by_cases h : k = 0
  · simp [h]
  · by_cases h2 : k % 2 = 1 <;> simp [h, h2]

theorem setR_e {α : Type} (v : Option α) (f k : Nat) :
    setR v (f + 1) (.e : Tr α) k = if k = 0 then .n .e v .e else if k % 2 = 1 then .n (setR v f .e (k / 2)) none .e else .n .e none (setR v f .e (k / 2 - 1)) := by
  show (Bool.rec (motive := fun _ => Tr α) (Bool.rec (motive := fun _ => Tr α) (.n .e none (setR v f .e (k / 2 - 1))) (.n (setR v f .e (k / 2)) none .e) (Nat.beq (k % 2) 1)) (.n .e v .e) (Nat.beq k 0)) = _
  rw [beq_iff, beq_iff]
  by_cases h : k = 0
  · simp [h]
  · by_cases h2 : k % 2 = 1 <;> simp [h, h2]

theorem setR_n {α : Type} (v : Option α) (f k : Nat) (l : Tr α) (x : Option α) (r : Tr α) :
    setR v (f + 1) (.n l x r) k = if k = 0 then .n l v r else if k % 2 = 1 then .n (setR v f l (k / 2)) x r else .n l x (setR v f r (k / 2 - 1)) := by
  show (Bool.rec (motive := fun _ => Tr α) (Bool.rec (motive := fun _ => Tr α) (.n l x (setR v f r (k / 2 - 1))) (.n (setR v f l (k / 2)) x r) (Nat.beq (k % 2) 1)) (.n l v r) (Nat.beq k 0)) = _
  rw [beq_iff, beq_iff]
  by_cases h : k = 0
  · simp [h]
  · by_cases h2 : k % 2 = 1 <;> simp [h, h2]

theorem getR_setR {α : Type} (v : Option α) : ∀ (f : Nat) (t : Tr α) (k : Nat), k + 1 < 2 ^ f → ∀ j, getR (setR v f t k) j = if j = k then v else getR t j
  | 0, t, k, h, j => by simp at h
  | f + 1, .e, k, h, j => by
    rw [Nat.pow_succ] at h
    rw [setR_e]
    by_cases hk : k = 0
    · rw [if_pos hk, getR_n]; subst hk
      by_cases hj : j = 0
      · simp [hj]
      · simp [hj, getR_e]
    · rw [if_neg hk]
      by_cases hk2 : k % 2 = 1
      · rw [if_pos hk2, getR_n, getR_setR v f .e (k / 2) (by omega), getR_e, getR_e]
        by_cases hj : j = 0
        · subst hj; rw [if_pos rfl, if_neg (fun e => hk e.symm)]; rfl
        · rw [if_neg hj]
          by_cases hj2 : j % 2 = 1
          · rw [if_pos hj2]
            by_cases e : j = k
            · subst e; simp
            · rw [if_neg e, if_neg (by omega)]; rfl
          · rw [if_neg hj2, if_neg (by omega)]; rfl
      · rw [if_neg hk2, getR_n, getR_setR v f .e (k / 2 - 1) (by omega), getR_e, getR_e]
        by_cases hj : j = 0
        · subst hj; rw [if_pos rfl, if_neg (fun e => hk e.symm)]; rfl
        · rw [if_neg hj]
          by_cases hj2 : j % 2 = 1
          · rw [if_pos hj2, if_neg (by omega)]; rfl
          · rw [if_neg hj2]
            by_cases e : j = k
            · subst e; simp
            · rw [if_neg e, if_neg (by omega)]; rfl
  | f + 1, .n l x r, k, h, j => by
    rw [Nat.pow_succ] at h
    rw [setR_n]
    by_cases hk : k = 0
    · rw [if_pos hk, getR_n, getR_n]; subst hk
      by_cases hj : j = 0
      · simp [hj]
      · simp [hj]
    · rw [if_neg hk]
      by_cases hk2 : k % 2 = 1
      · rw [if_pos hk2, getR_n, getR_n, getR_setR v f l (k / 2) (by omega)]
        by_cases hj : j = 0
        · subst hj; rw [if_pos rfl, if_neg (fun e => hk e.symm), if_pos rfl]
        · rw [if_neg hj, if_neg hj]
          by_cases hj2 : j % 2 = 1
          · rw [if_pos hj2, if_pos hj2]
            by_cases e : j = k
            · subst e; simp
            · rw [if_neg e, if_neg (by omega)]
          · rw [if_neg hj2, if_neg hj2, if_neg (by omega)]
      · rw [if_neg hk2, getR_n, getR_n, getR_setR v f r (k / 2 - 1) (by omega)]
        by_cases hj : j = 0
        · subst hj; rw [if_pos rfl, if_neg (fun e => hk e.symm), if_pos rfl]
        · rw [if_neg hj, if_neg hj]
          by_cases hj2 : j % 2 = 1
          · rw [if_pos hj2, if_pos hj2, if_neg (by omega)]
          · rw [if_neg hj2, if_neg hj2]
            by_cases e : j = k
            · subst e; simp
            · rw [if_neg e, if_neg (by omega)]

theorem getR_putR {α : Type} (t : Tr α) (k : Nat) (v : Option α) (h : k < big) (j : Nat) : getR (putR t k v) j = if j = k then v else getR t j := by
  unfold putR
  exact getR_setR v 61 t k (by unfold big at h; omega) j

end Go.Ev
end

section
/- A ground evaluator for closed calls, part E: both memories under what an operation does. -/
namespace Go.Ev
open Go.RowKit

theorem one_cell {v : Value} (h : one v = true) : v.oneCell' = true := by cases v <;> simp_all [one, Value.oneCell']

theorem ones_mem : ∀ {l : List Value}, ones l = true → ∀ v ∈ l, one v = true
  | x :: xs, h, v, hv => by
    simp only [ones, Bool.and_eq_true] at h
    rcases List.mem_cons.1 hv with rfl | hv
    · exact h.1
    · exact ones_mem h.2 v hv

theorem ones_append : ∀ {a b : List Value}, ones a = true → ones b = true → ones (a ++ b) = true
  | [], _, _, hb => hb
  | x :: xs, b, ha, hb => by
    simp only [ones, Bool.and_eq_true] at ha
    simp only [List.cons_append, ones, Bool.and_eq_true]
    exact ⟨ha.1, ones_append ha.2 hb⟩

theorem ones_take : ∀ {a : List Value} (n : Nat), ones a = true → ones (a.take n) = true
  | _, 0, _ => by simp [ones]
  | [], n + 1, _ => by simp [ones]
  | x :: xs, n + 1, h => by
    simp only [ones, Bool.and_eq_true] at h
    simp only [List.take_succ_cons, ones, Bool.and_eq_true]
    exact ⟨h.1, ones_take n h.2⟩

theorem ones_drop : ∀ {a : List Value} (n : Nat), ones a = true → ones (a.drop n) = true
  | _, 0, h => by simpa using h
  | [], n + 1, _ => by simp [ones]
  | x :: xs, n + 1, h => by
    simp only [ones, Bool.and_eq_true] at h
    simpa using ones_drop n h.2

theorem VRels.ones {ρ : Ren} : ∀ {a b : List Value}, VRels ρ a b → ones b = ones a
  | _, _, .nil => rfl
  | _, _, .cons h hs => by simp only [Go.Ev.ones, h.one, VRels.ones hs]

theorem add_lit (g o n : Nat) : (⟨g, o, none⟩ : Addr).add n = ⟨g, o + n, none⟩ := by unfold Addr.add; split <;> simp_all

theorem cell_at {w : World} {g : Nat} {c : List Value} {T : TypeId} {fr : Nat × Nat} (h : w.heap[g]? = some (.cells ⟨c⟩ T fr)) (o : Nat) : w.cell? ⟨g, o, none⟩ = c[o]? := by
  simp [World.cell?, h]

theorem frozen_at {w : World} {g : Nat} {c : List Value} {T : TypeId} {fr : Nat × Nat} (h : w.heap[g]? = some (.cells ⟨c⟩ T fr)) (o : Nat) (hf : ¬ (fr.1 ≤ o ∧ o < fr.2)) : w.frozen? ⟨g, o, none⟩ = false := by
  obtain ⟨lo, hi⟩ := fr
  simp only [World.frozen?, h, Bool.and_eq_false_iff, decide_eq_false_iff_not]
  simp only at hf
  omega

theorem heap_setCell {w : World} {g : Nat} {c : List Value} {T : TypeId} {fr : Nat × Nat} (h : w.heap[g]? = some (.cells ⟨c⟩ T fr)) (o : Nat) (v : Value) :
    (w.setCell ⟨g, o, none⟩ v).heap[g]? = some (.cells ⟨c.set o v⟩ T fr) := by
  simp [World.setCell, Array.getElem?_modify, h, Array.setIfInBounds]
  intro hl
  rw [List.set_eq_of_length_le hl]

theorem heap_setCell_other {w : World} {g g' o : Nat} {v : Value} (h : g' ≠ g) : (w.setCell ⟨g, o, none⟩ v).heap[g']? = w.heap[g']? := by
  simp only [World.setCell, Array.getElem?_modify]
  rw [if_neg (fun e => h e.symm)]

/-- A world in which one block has changed. -/
structure Changed (w w' : World) (g : Nat) (o : Obj) : Prop where
  os : w'.os = w.os
  tape : w'.tape = w.tape
  output : w'.output = w.output
  size : w'.heap.size = w.heap.size
  at_ : w'.heap[g]? = some o
  other : ∀ g', g' ≠ g → w'.heap[g']? = w.heap[g']?

theorem run_storeCells {P : Program} (g o : Nat) (T : TypeId) (fr : Nat × Nat) : ∀ (vs : List Value) (i : Nat) (c : List Value) (w : World), w.heap[g]? = some (.cells ⟨c⟩ T fr) →
    o + i + vs.length ≤ c.length → (∀ k, o + i ≤ k → k < o + i + vs.length → ¬ (fr.1 ≤ k ∧ k < fr.2)) → (∀ v ∈ vs, one v = true) →
    ∃ w', (storeCells ⟨g, o, none⟩ vs i).run P w = .ok () w' ∧ Changed w w' g (.cells ⟨c.take (o + i) ++ vs ++ c.drop (o + i + vs.length)⟩ T fr)
  | [], i, c, w, hg, _, _, _ => ⟨w, by simp [storeCells], ⟨rfl, rfl, rfl, rfl, by simp [hg], fun _ _ => rfl⟩⟩
  | v :: vs, i, c, w, hg, hl, hf, h1 => by
    have hi : o + i < c.length := by simp at hl; omega
    have hst : (store ((⟨g, o, none⟩ : Addr).add i) v).run P w = .ok () (w.setCell ⟨g, o + i, none⟩ v) := by
      rw [add_lit, run_store P w _ v _ (one_cell (h1 v (by simp))), cell_at hg, List.getElem?_eq_getElem hi]
      simp [frozen_at hg _ (hf _ (Nat.le_refl _) (by simp))]
    obtain ⟨w', hr, hc⟩ := run_storeCells (P := P) g o T fr vs (i + 1) (c.set (o + i) v) (w.setCell ⟨g, o + i, none⟩ v) (heap_setCell hg _ _) (by simp at hl ⊢; omega) (fun q h1 h2 => hf q (by omega) (by simp at h2 ⊢; omega)) (fun x hx => h1 x (by simp [hx]))
    refine ⟨w', by simp [storeCells, hst, hr], ?_⟩
    have e : (c.set (o + i) v).take (o + (i + 1)) ++ vs ++ (c.set (o + i) v).drop (o + (i + 1) + vs.length) = c.take (o + i) ++ (v :: vs) ++ c.drop (o + i + (v :: vs).length) := by
      have e1 : (c.set (o + i) v).take (o + i + 1) = c.take (o + i) ++ [v] := by
        rw [List.take_succ_eq_append_getElem (by simpa using hi)]
        simp [List.take_set_of_le]
      have e2 : (c.set (o + i) v).drop (o + i + 1 + vs.length) = c.drop (o + i + 1 + vs.length) := List.drop_set_of_lt (by omega)
      rw [show o + (i + 1) = o + i + 1 by omega, e1, e2]
      simp [Nat.add_assoc, Nat.add_comm 1]
    rw [e] at hc
    exact ⟨hc.os, hc.tape, hc.output, by rw [hc.size]; simp [World.setCell], hc.at_, fun g' hne => by rw [hc.other g' hne, heap_setCell_other hne]⟩

/-- The renaming with one name more. -/
def more (ρ : Ren) (n : Nat) (l : Loc) : Ren := fun i => if i = n then some l else ρ i

theorem more_same (ρ : Ren) (n : Nat) (l : Loc) : more ρ n l n = some l := by simp [more]
theorem more_other {ρ : Ren} {n i : Nat} {l : Loc} (h : i ≠ n) : more ρ n l i = ρ i := by simp [more, h]
theorem grows_more {ρ : Ren} {n : Nat} {l : Loc} (h : ρ n = none) : Grows ρ (more ρ n l) := by
  intro i k hi
  by_cases e : i = n
  · subst e; rw [h] at hi; cases hi
  · rw [more_other e]; exact hi

theorem HRel.lt {ρ : Ren} {h : Mem} {w : World} (k : HRel ρ h w) {g : Nat} (hn : Named ρ h g) : g < w.heap.size := by
  obtain ⟨i, l, h1, h2, rfl⟩ := hn
  cases ho : h i with
  | none => exact absurd ho h1
  | some o =>
    obtain ⟨l', o', a, b, _⟩ := k.at_ i o ho
    rw [h2] at a; injection a with a; subst a
    exact (Array.getElem?_eq_some_iff.1 b).1

theorem HRel.not_in {ρ : Ren} {h : Mem} {w : World} (k : HRel ρ h w) {n : Nat} (hf : ρ n = none) : h n = none := by
  cases ho : h n with
  | none => rfl
  | some o => obtain ⟨l, o', a, _⟩ := k.at_ n o ho; rw [hf] at a; cases a

/-- A new block. -/
theorem goes_fresh {ρ : Ren} {h h' : Mem} {n : Nat} {w w' : World} (hh : HRel ρ h w) (hf : ρ n = none) (l : Loc) (obj : RO) (o' : Obj)
    (hh' : ∀ j, h' j = if j = n then some obj else h j) (hw : w'.heap = w.heap.push o') (hos : w'.os = w.os) (htape : w'.tape = w.tape) (hout : w'.output = w.output)
    (hl : l.g = w.heap.size) (hr : ORel (more ρ n l) l obj o') : Goes ρ h n w (more ρ n l) h' (n + 1) w' where
  le := Nat.le_succ n
  ext i hi := more_other (by omega)
  os := hos
  tape := htape
  output := hout
  size := by rw [hw]; simp
  block g hg _ := by rw [hw, Array.getElem?_push, if_neg (by omega)]
  own g hg := by
    obtain ⟨i, k, h1, h2, rfl⟩ := hg
    by_cases e : i = n
    · subst e; rw [more_same] at h2; injection h2 with h2; subst h2; exact .inl (by omega)
    · rw [more_other e] at h2; rw [hh', if_neg e] at h1; exact .inr ⟨i, k, h1, h2, rfl⟩
  rel := by
    have g := grows_more (l := l) hf
    have hold : ∀ i k, h i ≠ none → ρ i = some k → k.g < w.heap.size := fun i k h1 h2 => hh.lt ⟨i, k, h1, h2, rfl⟩
    refine ⟨fun i o ho => ?_, fun i j li lj h1 h2 h3 h4 he => ?_⟩
    · rw [hh'] at ho
      by_cases e : i = n
      · rw [if_pos e] at ho; injection ho with ho; subst ho; subst e
        exact ⟨l, o', more_same _ _ _, by rw [hw, hl]; simp, hr⟩
      · rw [if_neg e] at ho
        obtain ⟨k, u, a, b, c⟩ := hh.at_ i o ho
        have hlt := hold i k (by rw [ho]; simp) a
        exact ⟨k, u, g i k a, by rw [hw, Array.getElem?_push, if_neg (by omega)]; exact b, c.mono g⟩
    · rw [hh'] at h1 h2
      by_cases ei : i = n
      · by_cases ej : j = n
        · rw [ei, ej]
        · subst ei; rw [more_same] at h3; injection h3 with h3; subst h3
          rw [if_neg ej] at h2; rw [more_other ej] at h4
          have := hold j lj h2 h4; omega
      · by_cases ej : j = n
        · subst ej; rw [more_same] at h4; injection h4 with h4; subst h4
          rw [if_neg ei] at h1; rw [more_other ei] at h3
          have := hold i li h1 h3; omega
        · rw [if_neg ei] at h1; rw [if_neg ej] at h2; rw [more_other ei] at h3; rw [more_other ej] at h4
          exact hh.inj i j li lj h1 h2 h3 h4 he

/-- A named block has changed. -/
theorem goes_update {ρ : Ren} {h h' : Mem} {n i : Nat} {w w' : World} (hh : HRel ρ h w) {l : Loc} (hi : h i ≠ none) (hl : ρ i = some l) (obj : RO) (o' : Obj)
    (hh' : ∀ j, h' j = if j = i then some obj else h j) (hw : Changed w w' l.g o') (hr : ORel ρ l obj o') : Goes ρ h n w ρ h' n w' where
  le := Nat.le_refl n
  ext _ _ := rfl
  os := hw.os
  tape := hw.tape
  output := hw.output
  size := by rw [hw.size]; exact Nat.le_refl _
  block g hg hn := hw.other g (fun e => hn ⟨i, l, hi, hl, e.symm⟩)
  own g hg := by
    obtain ⟨j, k, h1, h2, rfl⟩ := hg
    by_cases e : j = i
    · subst e; exact .inr ⟨j, k, hi, h2, rfl⟩
    · rw [hh', if_neg e] at h1; exact .inr ⟨j, k, h1, h2, rfl⟩
  rel := by
    refine ⟨fun j o ho => ?_, fun j j' lj lj' h1 h2 h3 h4 he => ?_⟩
    · rw [hh'] at ho
      by_cases e : j = i
      · rw [if_pos e] at ho; injection ho with ho; subst ho; subst e
        exact ⟨l, o', hl, hw.at_, hr⟩
      · rw [if_neg e] at ho
        obtain ⟨k, u, a, b, c⟩ := hh.at_ j o ho
        have hne : k.g ≠ l.g := fun eg => e (hh.inj j i k l (by rw [ho]; simp) hi a hl eg)
        exact ⟨k, u, a, by rw [hw.other _ hne]; exact b, c⟩
    · have q : ∀ x, h' x ≠ none → h x ≠ none := by
        intro x hx
        by_cases e : x = i
        · subst e; exact hi
        · rwa [hh', if_neg e] at hx
      exact hh.inj j j' lj lj' (q j h1) (q j' h2) h3 h4 he

/-- A name is given up. -/
theorem goes_kill {ρ : Ren} {h h' : Mem} {n i : Nat} {w : World} (hh : HRel ρ h w) (hh' : ∀ j, h' j = if j = i then none else h j) : Goes ρ h n w ρ h' n w where
  le := Nat.le_refl n
  ext _ _ := rfl
  os := rfl
  tape := rfl
  output := rfl
  size := Nat.le_refl _
  block _ _ _ := rfl
  own g hg := by
    obtain ⟨j, k, h1, h2, rfl⟩ := hg
    rw [hh'] at h1
    by_cases e : j = i
    · rw [if_pos e] at h1; exact absurd rfl h1
    · rw [if_neg e] at h1; exact .inr ⟨j, k, h1, h2, rfl⟩
  rel := by
    have q : ∀ x o, h' x = some o → h x = some o := by
      intro x o hx
      rw [hh'] at hx
      by_cases e : x = i
      · rw [if_pos e] at hx; cases hx
      · rwa [if_neg e] at hx
    have q' : ∀ x, h' x ≠ none → h x ≠ none := by
      intro x hx
      cases hy : h' x with
      | none => exact absurd hy hx
      | some o => rw [q x o hy]; simp
    exact ⟨fun j o ho => hh.at_ j o (q j o ho), fun j j' lj lj' h1 h2 => hh.inj j j' lj lj' (q' j h1) (q' j' h2)⟩

/-- A named block has changed and has another name now. -/
theorem goes_move {ρ : Ren} {h h' : Mem} {n i : Nat} {w w' : World} (hh : HRel ρ h w) {l l' : Loc} (hi : h i ≠ none) (hl : ρ i = some l) (hf : ρ n = none) (hg : l'.g = l.g) (obj : RO) (o' : Obj)
    (hh' : ∀ j, h' j = if j = n then some obj else if j = i then none else h j) (hw : Changed w w' l.g o') (hr : ORel (more ρ n l') l' obj o') : Goes ρ h n w (more ρ n l') h' (n + 1) w' where
  le := Nat.le_succ n
  ext j hj := more_other (by omega)
  os := hw.os
  tape := hw.tape
  output := hw.output
  size := by rw [hw.size]; exact Nat.le_refl _
  block g _ hn := hw.other g (fun e => hn ⟨i, l, hi, hl, e.symm⟩)
  own g hgn := by
    obtain ⟨j, k, h1, h2, rfl⟩ := hgn
    by_cases e : j = n
    · subst e; rw [more_same] at h2; injection h2 with h2; subst h2; exact .inr ⟨i, l, hi, hl, hg.symm⟩
    · rw [more_other e] at h2
      rw [hh', if_neg e] at h1
      by_cases e2 : j = i
      · rw [if_pos e2] at h1; exact absurd rfl h1
      · rw [if_neg e2] at h1; exact .inr ⟨j, k, h1, h2, rfl⟩
  rel := by
    have g := grows_more (l := l') hf
    have q : ∀ x o, x ≠ n → h' x = some o → h x = some o ∧ x ≠ i := by
      intro x o e hx
      rw [hh', if_neg e] at hx
      by_cases e2 : x = i
      · rw [if_pos e2] at hx; cases hx
      · rw [if_neg e2] at hx; exact ⟨hx, e2⟩
    have q' : ∀ x, x ≠ n → h' x ≠ none → h x ≠ none ∧ x ≠ i := by
      intro x e hx
      cases hy : h' x with
      | none => exact absurd hy hx
      | some o => obtain ⟨a, b⟩ := q x o e hy; exact ⟨by rw [a]; simp, b⟩
    have ne : ∀ x k, h x ≠ none → x ≠ i → ρ x = some k → k.g ≠ l.g := fun x k a b c e => b (hh.inj x i k l a hi c hl e)
    refine ⟨fun j o ho => ?_, fun j j' lj lj' h1 h2 h3 h4 he => ?_⟩
    · by_cases e : j = n
      · subst e; rw [hh', if_pos rfl] at ho; injection ho with ho; subst ho
        exact ⟨l', o', more_same _ _ _, by rw [hg]; exact hw.at_, hr⟩
      · obtain ⟨a, b⟩ := q j o e ho
        obtain ⟨k, u, c, d, f⟩ := hh.at_ j o a
        exact ⟨k, u, g j k c, by rw [hw.other _ (ne j k (by rw [a]; simp) b c)]; exact d, f.mono g⟩
    · by_cases e : j = n
      · by_cases e' : j' = n
        · rw [e, e']
        · subst e; rw [more_same] at h3; injection h3 with h3; subst h3
          obtain ⟨a, b⟩ := q' j' e' h2
          rw [more_other e'] at h4
          exact absurd (he.symm.trans hg) (ne j' lj' a b h4)
      · by_cases e' : j' = n
        · subst e'; rw [more_same] at h4; injection h4 with h4; subst h4
          obtain ⟨a, b⟩ := q' j e h1
          rw [more_other e] at h3
          exact absurd (he.trans hg) (ne j lj a b h3)
        · obtain ⟨a, _⟩ := q' j e h1
          obtain ⟨b, _⟩ := q' j' e' h2
          rw [more_other e] at h3; rw [more_other e'] at h4
          exact hh.inj j j' lj lj' a b h3 h4 he

end Go.Ev
end

