import Derived.Test.YtggcnnpklkmeoaaGreatDoorWG
import Derived.Test.YtggcnnpklkmeoaaGreatDoorWA
import Derived.Test.YtggcnnpklkmeoaaGreatDoorWF
import Derived.Test.YtggcnnpklkmeoaaGreatDoorWE
section
namespace Go.Proofs.YtggcnnpklkmeoaaGreatDoor
open Go.RowKit Go

/-! The tracks of the reference of chapter 7. -/

/-- Is one of the first k nets that are done on track t, and meets net i? -/
def busyTo (nets : List (Int × List Int)) (ord out done : List Int) (i : Nat) (t : Int) : Nat → Bool
  | 0 => false
  | k + 1 => busyTo nets ord out done i t k || (decide (out.getD (done.getD k 0).toNat 0 = t) && meetB ord (netAt nets (done.getD k 0)) (nets.getD i (0, [])).2)

def freeFrom (f : Nat → Bool) (t : Nat) : Nat → Nat
  | 0 => t
  | n + 1 => if f t = true then freeFrom f (t + 1) n else t

/-- The least track that is free for net i. -/
def freeOf (nets : List (Int × List Int)) (ord out done : List Int) (i : Nat) : Nat :=
  freeFrom (fun t => busyTo nets ord out done i t done.length) 0 (done.length + 1)

def trackStep (nets : List (Int × List Int)) (ord : List Int) (p : Int) (s : List Int × List Int) (i : Nat) : List Int × List Int :=
  if (extOf ord (nets.getD i (0, [])).2).1 = p then (s.1.set i (freeOf nets ord s.1 s.2 i : Nat), s.2 ++ [(i : Int)]) else s

def rowTo (nets : List (Int × List Int)) (ord : List Int) (p : Int) (s : List Int × List Int) : Nat → List Int × List Int
  | 0 => s
  | i + 1 => trackStep nets ord p (rowTo nets ord p s i) i

def tracksTo (nets : List (Int × List Int)) (ord : List Int) : Nat → List Int × List Int
  | 0 => (List.replicate nets.length 0, [])
  | p + 1 => rowTo nets ord p (tracksTo nets ord p) nets.length

/-- The tracks of nets. -/
def tracksOf (nets : List (Int × List Int)) (ord : List Int) : List Int := (tracksTo nets ord ord.length).1

structure TInv (nets : List (Int × List Int)) (ord : List Int) (p : Nat) (i : Nat) (s : List Int × List Int) : Prop where
  len : s.1.length = nets.length
  done : ∀ d ∈ s.2, 0 ≤ d ∧ d < nets.length ∧ ((extOf ord (netAt nets d)).1 < p ∨ ((extOf ord (netAt nets d)).1 = p ∧ d < i))
  bd : ∀ d ∈ s.2, 0 ≤ s.1.getD d.toNat 0 ∧ s.1.getD d.toNat 0 < s.2.length
  zero : ∀ j : Nat, (j : Int) ∉ s.2 → s.1.getD j 0 = 0
  cnt : s.2.length ≤ p * nets.length + i

theorem freeFrom_le {f : Nat → Bool} {n : Nat} (h : ∀ t, f t = true → t < n) : ∀ (m t : Nat), t ≤ n → freeFrom f t m ≤ n
  | 0, t, ht => ht
  | m + 1, t, ht => by
    unfold freeFrom
    split
    · rename_i hf
      exact freeFrom_le h m (t + 1) (h t hf)
    · exact ht

theorem freeFrom_free {f : Nat → Bool} {n : Nat} (h : ∀ t, f t = true → t < n) : ∀ (m t : Nat), n < t + m → f (freeFrom f t m) = false
  | 0, t, ht => by
    unfold freeFrom
    cases hf : f t with
    | false => rfl
    | true => have := h t hf; omega
  | m + 1, t, ht => by
    unfold freeFrom
    split
    · exact freeFrom_free h m (t + 1) (by omega)
    · rename_i hf; exact Bool.eq_false_iff.2 hf

theorem freeFrom_below {f : Nat → Bool} : ∀ (m t u : Nat), t ≤ u → u < freeFrom f t m → f u = true
  | 0, t, u, h1, h2 => by unfold freeFrom at h2; omega
  | m + 1, t, u, h1, h2 => by
    unfold freeFrom at h2
    split at h2
    · rename_i hf
      by_cases e : u = t
      · subst e; exact hf
      · exact freeFrom_below m (t + 1) u (by omega) h2
    · omega

theorem freeFrom_ge {f : Nat → Bool} : ∀ (m t : Nat), t ≤ freeFrom f t m
  | 0, t => Nat.le_refl _
  | m + 1, t => by
    unfold freeFrom
    split
    · have := freeFrom_ge (f := f) m (t + 1); omega
    · exact Nat.le_refl _

theorem busyTo_iff {nets : List (Int × List Int)} {ord out done : List Int} {i : Nat} {t : Int} : ∀ {k : Nat}, k ≤ done.length → (busyTo nets ord out done i t k = true ↔ ∃ j, j < k ∧ out.getD (done.getD j 0).toNat 0 = t ∧ meetB ord (netAt nets (done.getD j 0)) (nets.getD i (0, [])).2 = true)
  | 0, _ => by simp [busyTo]
  | k + 1, hk => by
    unfold busyTo
    rw [Bool.or_eq_true, busyTo_iff (by omega), Bool.and_eq_true, decide_eq_true_iff]
    constructor
    · rintro (⟨j, h1, h2⟩ | h)
      · exact ⟨j, by omega, h2⟩
      · exact ⟨k, by omega, h⟩
    · rintro ⟨j, h1, h2⟩
      by_cases e : j = k
      · subst e; exact .inr h2
      · exact .inl ⟨j, by omega, h2⟩

theorem getD_mem_int {l : List Int} {j : Nat} (h : j < l.length) : l.getD j 0 ∈ l := by
  rw [List.getD_eq_getElem?_getD, List.getElem?_eq_getElem h]; exact List.getElem_mem h

theorem busy_lt {nets : List (Int × List Int)} {ord : List Int} {p i : Nat} {s : List Int × List Int} (h : TInv nets ord p i s) (i' : Nat) (t : Nat) (hb : busyTo nets ord s.1 s.2 i' t s.2.length = true) : t < s.2.length := by
  obtain ⟨j, h1, h2, _⟩ := (busyTo_iff (Nat.le_refl _)).1 hb
  have := (h.bd _ (getD_mem_int h1)).2
  omega

theorem freeOf_le {nets : List (Int × List Int)} {ord : List Int} {p i : Nat} {s : List Int × List Int} (h : TInv nets ord p i s) (i' : Nat) : freeOf nets ord s.1 s.2 i' ≤ s.2.length :=
  freeFrom_le (fun t => busy_lt h i' t) _ 0 (Nat.zero_le _)

theorem TInv.notin {nets : List (Int × List Int)} {ord : List Int} {p i : Nat} {s : List Int × List Int} (h : TInv nets ord p i s) (hp : (extOf ord (nets.getD i (0, [])).2).1 = p) : (i : Int) ∉ s.2 := by
  intro hm
  obtain ⟨_, _, h3⟩ := h.done _ hm
  have e : netAt nets (i : Int) = (nets.getD i (0, [])).2 := by unfold netAt; simp
  rw [e, hp] at h3
  omega

theorem TInv.step {nets : List (Int × List Int)} {ord : List Int} {p i : Nat} {s : List Int × List Int} (h : TInv nets ord p i s) (hi : i < nets.length) : TInv nets ord p (i + 1) (trackStep nets ord p s i) := by
  unfold trackStep
  split
  · rename_i hp
    have hn := h.notin hp
    have hf := freeOf_le h i
    have e : netAt nets (i : Int) = (nets.getD i (0, [])).2 := by unfold netAt; simp
    have hset : ∀ j : Nat, j ≠ i → (s.1.set i (freeOf nets ord s.1 s.2 i : Nat)).getD j 0 = s.1.getD j 0 := by
      intro j hj
      rw [List.getD_eq_getElem?_getD, List.getD_eq_getElem?_getD, List.getElem?_set_ne (by omega)]
    have hsame : (s.1.set i (freeOf nets ord s.1 s.2 i : Nat)).getD i 0 = (freeOf nets ord s.1 s.2 i : Nat) := by
      rw [List.getD_eq_getElem?_getD, List.getElem?_set_self (by rw [h.len]; exact hi)]; rfl
    refine ⟨by rw [List.length_set]; exact h.len, ?_, ?_, ?_, ?_⟩
    · intro d hd
      rw [List.mem_append] at hd
      rcases hd with hd | hd
      · obtain ⟨a, b, c⟩ := h.done d hd
        exact ⟨a, b, by omega⟩
      · simp only [List.mem_singleton] at hd
        subst hd
        exact ⟨by omega, by omega, .inr ⟨by rw [e]; exact hp, by omega⟩⟩
    · intro d hd
      rw [List.length_append]
      simp only [List.length_cons, List.length_nil]
      rw [List.mem_append] at hd
      rcases hd with hd | hd
      · have hne : d.toNat ≠ i := by
          intro e2
          have := (h.done d hd).1
          exact hn (by rw [show (i : Int) = d by omega]; exact hd)
        rw [hset _ hne]
        have := h.bd d hd
        omega
      · simp only [List.mem_singleton] at hd
        subst hd
        rw [show ((i : Int)).toNat = i by omega, hsame]
        omega
    · intro j hj
      rw [List.mem_append] at hj
      have hj1 : (j : Int) ∉ s.2 := fun x => hj (.inl x)
      have hj2 : j ≠ i := by rintro rfl; exact hj (.inr (by simp))
      rw [hset _ hj2]
      exact h.zero j hj1
    · rw [List.length_append]
      simp only [List.length_cons, List.length_nil]
      have := h.cnt
      omega
  · refine ⟨h.len, ?_, h.bd, h.zero, by have := h.cnt; omega⟩
    intro d hd
    obtain ⟨a, b, c⟩ := h.done d hd
    exact ⟨a, b, by omega⟩

theorem TInv.next {nets : List (Int × List Int)} {ord : List Int} {p : Nat} {s : List Int × List Int} (h : TInv nets ord p nets.length s) : TInv nets ord (p + 1) 0 s := by
  refine ⟨h.len, ?_, h.bd, h.zero, by have := h.cnt; rw [Nat.add_mul]; omega⟩
  intro d hd
  obtain ⟨a, b, c⟩ := h.done d hd
  exact ⟨a, b, by omega⟩

theorem TInv.start (nets : List (Int × List Int)) (ord : List Int) : TInv nets ord 0 0 (List.replicate nets.length 0, []) := by
  refine ⟨by simp, by simp, by simp, ?_, by simp⟩
  intro j _
  rw [List.getD_eq_getElem?_getD, List.getElem?_replicate]
  split <;> rfl

theorem TInv.row {nets : List (Int × List Int)} {ord : List Int} {p : Nat} {s : List Int × List Int} (h : TInv nets ord p 0 s) : ∀ {i : Nat}, i ≤ nets.length → TInv nets ord p i (rowTo nets ord p s i)
  | 0, _ => h
  | i + 1, hi => (TInv.row h (by omega)).step (by omega)

theorem TInv.all (nets : List (Int × List Int)) (ord : List Int) : ∀ (p : Nat), TInv nets ord p 0 (tracksTo nets ord p)
  | 0 => TInv.start nets ord
  | p + 1 => (TInv.row (TInv.all nets ord p) (Nat.le_refl _)).next
end Go.Proofs.YtggcnnpklkmeoaaGreatDoor
end

section
namespace Go.Proofs.YtggcnnpklkmeoaaGreatDoor
open Go.RowKit Go

/-! What the tracks and the clique of the reference of chapter 7 have to do with each other (no walk). -/

theorem nodup_sub : ∀ (a b : List Int), a.Nodup → (∀ x ∈ a, x ∈ b) → a.length ≤ b.length
  | [], _, _, _ => Nat.zero_le _
  | x :: r, b, hn, hs => by
    rw [List.nodup_cons] at hn
    have hx : x ∈ b := hs x (by simp)
    have ih := nodup_sub r (b.erase x) hn.2 (fun y hy => by
      have hne : y ≠ x := by rintro rfl; exact hn.1 hy
      exact (List.mem_erase_of_ne hne).2 (hs y (by simp [hy])))
    rw [List.length_erase_of_mem hx] at ih
    have := List.length_pos_of_mem hx
    simp only [List.length_cons]
    omega

def upTo (n : Nat) : List Int := (List.range n).map fun (k : Nat) => (k : Int)
theorem upTo_len (n : Nat) : (upTo n).length = n := by simp [upTo]
theorem upTo_mem {n : Nat} {x : Int} : x ∈ upTo n ↔ 0 ≤ x ∧ x < n := by
  unfold upTo
  rw [List.mem_map]
  constructor
  · rintro ⟨k, hk, rfl⟩
    rw [List.mem_range] at hk
    omega
  · rintro ⟨h1, h2⟩
    exact ⟨x.toNat, by rw [List.mem_range]; omega, by omega⟩

/-- The first occurrences among the first k of a list. -/
def firsts (l : List Int) : Nat → List Int
  | 0 => []
  | k + 1 => firsts l k ++ if l.getD k 0 ∈ l.take k then [] else [l.getD k 0]

theorem firsts_len (l : List Int) : ∀ k, (firsts l k).length = dcnt l k
  | 0 => rfl
  | k + 1 => by
    unfold firsts dcnt
    rw [List.length_append, firsts_len l k]
    split <;> simp

theorem firsts_mem (l : List Int) (x : Int) : ∀ k, k ≤ l.length → (x ∈ firsts l k ↔ x ∈ l.take k)
  | 0, _ => by simp [firsts]
  | k + 1, hk => by
    unfold firsts
    rw [List.mem_append, firsts_mem l x k (by omega), int_take (by omega), List.mem_append]
    split
    · rename_i h
      constructor
      · rintro (h1 | h1)
        · exact .inl h1
        · simp at h1
      · rintro (h1 | h1)
        · exact .inl h1
        · left; rw [List.mem_singleton] at h1; rw [h1]; exact h
    · rfl

theorem firsts_nodup (l : List Int) : ∀ k, k ≤ l.length → (firsts l k).Nodup
  | 0, _ => by simp [firsts]
  | k + 1, hk => by
    unfold firsts
    rw [List.nodup_append]
    refine ⟨firsts_nodup l k (by omega), by split <;> simp, ?_⟩
    intro a ha b hb
    split at hb
    · simp at hb
    · rename_i h
      rw [List.mem_singleton] at hb
      rintro rfl
      rw [firsts_mem l a k (by omega)] at ha
      exact h (by rw [← hb]; exact ha)

/-- As many different numbers as all lie below. -/
theorem dcnt_below {l : List Int} {m : Nat} (h : ∀ x ∈ l, 0 ≤ x ∧ x < m) : dcnt l l.length ≤ m := by
  rw [← firsts_len]
  have := nodup_sub (firsts l l.length) (upTo m) (firsts_nodup l _ (Nat.le_refl _)) (fun x hx => by
    rw [firsts_mem l x _ (Nat.le_refl _), List.take_length] at hx
    exact upTo_mem.2 (h x hx))
  rwa [upTo_len] at this

theorem dcnt_above {l a : List Int} (h : a.Nodup) (hs : ∀ x ∈ a, x ∈ l) : a.length ≤ dcnt l l.length := by
  rw [← firsts_len]
  exact nodup_sub a _ h (fun x hx => by rw [firsts_mem l x _ (Nat.le_refl _), List.take_length]; exact hs x hx)

theorem posFrom_mem {x : Int} : ∀ {l : List Int} {i : Nat}, x ∈ l → (i : Int) ≤ posFrom x l i
  | y :: r, i, h => by
    unfold posFrom
    split
    · exact Int.le_refl _
    · rename_i hne
      rw [List.mem_cons] at h
      rcases h with h | h
      · exact absurd h.symm hne
      · have := posFrom_mem (i := i + 1) h; omega

theorem posOf_in {x : Int} {l : List Int} (h : x ∈ l) : 0 ≤ posOf x l ∧ posOf x l < l.length := by
  have h1 := posFrom_mem (i := 0) h
  have h2 := posFrom_le x l 0
  unfold posOf
  omega

/-- A valid order. -/
structure OkOrd (n : Nat) (ord : List Int) : Prop where
  len : ord.length = n
  rng : ∀ x ∈ ord, 0 ≤ x ∧ x < n
  nod : ord.Nodup

theorem OkOrd.all {n : Nat} {ord : List Int} (h : OkOrd n ord) {c : Int} (h0 : 0 ≤ c) (h1 : c < n) : c ∈ ord := by
  by_cases hc : c ∈ ord
  · exact hc
  · have := nodup_sub (c :: ord) (upTo n) (List.nodup_cons.2 ⟨hc, h.nod⟩) (fun x hx => by
      rw [List.mem_cons] at hx
      rcases hx with rfl | hx
      · exact upTo_mem.2 ⟨h0, h1⟩
      · exact upTo_mem.2 (h.rng x hx))
    rw [upTo_len, List.length_cons, h.len] at this
    omega

theorem orderFrom_ok {cols : Int} {ord : List Int} : ∀ (n k : Nat), k + n = ord.length → orderFrom cols ord k n = 0 → (∀ x ∈ ord.take k, 0 ≤ x ∧ x < cols) → (ord.take k).Nodup → (∀ x ∈ ord, 0 ≤ x ∧ x < cols) ∧ ord.Nodup
  | 0, k, hk, _, h1, h2 => by
    rw [List.take_of_length_le (by omega)] at h1 h2
    exact ⟨h1, h2⟩
  | n + 1, k, hk, h, h1, h2 => by
    unfold orderFrom at h
    split at h
    · omega
    · rename_i ha
      split at h
      · omega
      · rename_i hb
        have hkl : k < ord.length := by omega
        refine orderFrom_ok n (k + 1) (by omega) h ?_ ?_
        · intro x hx
          rw [int_take hkl, List.mem_append] at hx
          rcases hx with hx | hx
          · exact h1 x hx
          · rw [List.mem_singleton] at hx; subst hx; omega
        · rw [int_take hkl, List.nodup_append]
          refine ⟨h2, by simp, ?_⟩
          intro a ha2 b hb2
          rw [List.mem_singleton] at hb2
          rintro rfl
          exact hb (by rw [← hb2]; exact ha2)

theorem orderOf_ok {n : Nat} {ord : List Int} (h : orderOf (n : Int) ord = 0) : OkOrd n ord := by
  unfold orderOf at h
  split at h
  · rename_i hl
    have := orderFrom_ok (cols := n) (ord := ord) ord.length 0 (by omega) h (by simp) (by simp)
    exact ⟨by omega, this.1, this.2⟩
  · omega

/-- Valid columns of a net. -/
def OkCols (n : Nat) (cols : List Int) : Prop := cols ≠ [] ∧ ∀ c ∈ cols, 0 ≤ c ∧ c < n

theorem colsFrom_ok {cols : Int} {l : List Int} : ∀ (n k : Nat), k + n = l.length → colsFrom cols l k n = 0 → (∀ x ∈ l.take k, 0 ≤ x ∧ x < cols) → ∀ x ∈ l, 0 ≤ x ∧ x < cols
  | 0, k, hk, _, h1 => by
    rw [List.take_of_length_le (by omega)] at h1
    exact h1
  | n + 1, k, hk, h, h1 => by
    unfold colsFrom at h
    split at h
    · omega
    · split at h
      · omega
      · have hkl : k < l.length := by omega
        refine colsFrom_ok n (k + 1) (by omega) h ?_
        intro x hx
        rw [int_take hkl, List.mem_append] at hx
        rcases hx with hx | hx
        · exact h1 x hx
        · rw [List.mem_singleton] at hx; subst hx; omega

theorem netsFrom_ok {cols : Int} {xs : List (Int × List Int)} : ∀ (n k : Nat), k + n = xs.length → netsFrom cols xs k n = 0 → ∀ i, k ≤ i → i < xs.length → netErr cols (xs.take i) (xs.getD i (0, [])) = 0
  | 0, k, hk, _, i, h1, h2 => by omega
  | n + 1, k, hk, h, i, h1, h2 => by
    unfold netsFrom at h
    split at h
    · rename_i he
      by_cases e : i = k
      · subst e; exact he
      · exact netsFrom_ok n (k + 1) (by omega) h i (by omega) h2
    · rename_i he
      exact absurd h he

theorem netsOf_ok {cols : Int} {xs : List (Int × List Int)} (h : netsOf cols xs = 0) : (1 ≤ cols ∧ cols ≤ 97) ∧ xs.length ≤ 64 ∧ ∀ i, i < xs.length → OkCols cols.toNat (xs.getD i (0, [])).2 := by
  unfold netsOf at h
  split at h
  · omega
  · split at h
    · omega
    · rename_i ha hb
      refine ⟨by omega, by omega, fun i hi => ?_⟩
      have he := netsFrom_ok xs.length 0 (by omega) h i (Nat.zero_le _) hi
      unfold netErr at he
      split at he
      · omega
      · split at he
        · omega
        · split at he
          · omega
          · rename_i hc
            refine ⟨hc, fun c hcm => ?_⟩
            have := colsFrom_ok (cols := cols) _ 0 (by omega) he (by simp) c hcm
            omega

theorem ext_fold {n : Nat} : ∀ (l : List Int) (s : Int × Int), (∀ p ∈ l, 0 ≤ p ∧ p < (n : Int)) → (0 ≤ s.1 ∧ s.1 ≤ s.2 ∧ s.2 < n) → 0 ≤ (l.foldl extStep s).1 ∧ (l.foldl extStep s).1 ≤ (l.foldl extStep s).2 ∧ (l.foldl extStep s).2 < n
  | [], s, _, h => h
  | p :: r, s, hl, h => by
    rw [List.foldl_cons]
    have hp := hl p (by simp)
    refine ext_fold r _ (fun q hq => hl q (by simp [hq])) ?_
    unfold extStep
    dsimp only
    split <;> split <;> omega

theorem ext_ok {n : Nat} {ord cols : List Int} (ho : OkOrd n ord) (hc : OkCols n cols) : 0 ≤ (extOf ord cols).1 ∧ (extOf ord cols).1 ≤ (extOf ord cols).2 ∧ (extOf ord cols).2 < n := by
  unfold extOf
  have hpos : ∀ p ∈ cols.map (fun c => posOf c ord), 0 ≤ p ∧ p < (n : Int) := by
    intro p hp
    rw [List.mem_map] at hp
    obtain ⟨c, hcm, rfl⟩ := hp
    obtain ⟨h0, h1⟩ := hc.2 c hcm
    have := posOf_in (ho.all h0 h1)
    rw [ho.len] at this
    exact this
  cases hcs : cols with
  | nil => exact absurd hcs hc.1
  | cons c r =>
    rw [hcs] at hpos
    rw [List.map_cons, List.foldl_cons]
    have hp := hpos (posOf c ord) (by simp)
    refine ext_fold _ _ (fun q hq => hpos q (by rw [List.map_cons]; exact List.mem_cons_of_mem _ hq)) ?_
    unfold extStep
    dsimp only
    split <;> split <;> omega

theorem covB_iff {ord a : List Int} {p : Int} : covB ord a p = true ↔ (extOf ord a).1 ≤ p ∧ p ≤ (extOf ord a).2 := by
  unfold covB
  rw [Bool.and_eq_true, decide_eq_true_iff, decide_eq_true_iff]

theorem meetFrom_iff {ord a b : List Int} : ∀ (n k : Nat), meetFrom ord a b k n = true ↔ ∃ p : Nat, k ≤ p ∧ p < k + n ∧ covB ord a p = true ∧ covB ord b p = true
  | 0, k => by
    unfold meetFrom
    constructor
    · intro h; cases h
    · rintro ⟨p, h1, h2, _⟩; omega
  | n + 1, k => by
    unfold meetFrom
    rw [Bool.or_eq_true, Bool.and_eq_true, meetFrom_iff n (k + 1)]
    constructor
    · rintro (⟨h1, h2⟩ | ⟨p, h1, h2, h3⟩)
      · exact ⟨k, Nat.le_refl _, by omega, h1, h2⟩
      · exact ⟨p, by omega, by omega, h3⟩
    · rintro ⟨p, h1, h2, h3⟩
      by_cases e : p = k
      · subst e; exact .inl h3
      · exact .inr ⟨p, by omega, by omega, h3⟩

theorem meetB_iff {ord a b : List Int} : meetB ord a b = true ↔ ∃ p : Nat, p < ord.length ∧ covB ord a p = true ∧ covB ord b p = true := by
  unfold meetB
  rw [meetFrom_iff]
  constructor
  · rintro ⟨p, _, h2, h3⟩; exact ⟨p, by omega, h3⟩
  · rintro ⟨p, h2, h3⟩; exact ⟨p, by omega, by omega, h3⟩

theorem meetB_comm (ord a b : List Int) : meetB ord a b = meetB ord b a := by
  rw [Bool.eq_iff_iff, meetB_iff, meetB_iff]
  constructor <;> (rintro ⟨p, h1, h2, h3⟩; exact ⟨p, h1, h3, h2⟩)

theorem coverTo_mem {nets : List (Int × List Int)} {ord : List Int} {p x : Int} : ∀ {k : Nat}, x ∈ coverTo nets ord p k ↔ ∃ i : Nat, i < k ∧ x = (i : Int) ∧ covB ord (nets.getD i (0, [])).2 p = true
  | 0 => by simp [coverTo]
  | k + 1 => by
    unfold coverTo
    rw [List.mem_append, coverTo_mem]
    constructor
    · rintro (⟨i, h1, h2⟩ | h)
      · exact ⟨i, by omega, h2⟩
      · split at h
        · rename_i hc
          rw [List.mem_singleton] at h
          exact ⟨k, by omega, h, hc⟩
        · simp at h
    · rintro ⟨i, h1, h2, h3⟩
      by_cases e : i = k
      · subst e
        right
        rw [if_pos h3, h2]
        simp
      · exact .inl ⟨i, by omega, h2, h3⟩

theorem coverTo_nodup {nets : List (Int × List Int)} {ord : List Int} {p : Int} : ∀ (k : Nat), (coverTo nets ord p k).Nodup
  | 0 => by simp [coverTo]
  | k + 1 => by
    unfold coverTo
    rw [List.nodup_append]
    refine ⟨coverTo_nodup k, by split <;> simp, ?_⟩
    intro a ha b hb
    split at hb
    · rw [List.mem_singleton] at hb
      rintro rfl
      obtain ⟨i, h1, h2, _⟩ := coverTo_mem.1 ha
      omega
    · simp at hb

theorem bestTo_max (nets : List (Int × List Int)) (ord : List Int) : ∀ (k p : Nat), p < k → (coverTo nets ord p nets.length).length ≤ (bestTo nets ord k).1.length
  | 0, p, h => by omega
  | k + 1, p, h => by
    unfold bestTo
    by_cases e : p = k
    · subst e
      split
      · exact Nat.le_refl _
      · omega
    · have ih := bestTo_max nets ord k p (by omega)
      split
      · dsimp only; omega
      · exact ih

theorem bestTo_at (nets : List (Int × List Int)) (ord : List Int) : ∀ (k : Nat), (bestTo nets ord k = ([], 0)) ∨ ∃ p : Nat, p < k ∧ (bestTo nets ord k).2 = (p : Int) ∧ (bestTo nets ord k).1 = coverTo nets ord p nets.length
  | 0 => .inl rfl
  | k + 1 => by
    unfold bestTo
    split
    · exact .inr ⟨k, by omega, rfl, rfl⟩
    · rcases bestTo_at nets ord k with h | ⟨p, h1, h2, h3⟩
      · exact .inl h
      · exact .inr ⟨p, by omega, h2, h3⟩
end Go.Proofs.YtggcnnpklkmeoaaGreatDoor
end

section
namespace Go.Proofs.YtggcnnpklkmeoaaGreatDoor
open Go.RowKit Go

/-! The tracks are a layout with as many tracks as the clique has nets; none has fewer. -/

/-- Valid nets in a valid order. -/
structure OkNets (n : Nat) (nets : List (Int × List Int)) (ord : List Int) : Prop where
  ord : OkOrd n ord
  cols : ∀ i, i < nets.length → OkCols n (nets.getD i (0, [])).2

def low (nets : List (Int × List Int)) (ord : List Int) (d : Int) : Int := (extOf ord (netAt nets d)).1

theorem netAt_nat (nets : List (Int × List Int)) (i : Nat) : netAt nets (i : Int) = (nets.getD i (0, [])).2 := by unfold netAt; simp

structure GInv (nets : List (Int × List Int)) (ord : List Int) (s : List Int × List Int) : Prop where
  apart : ∀ d ∈ s.2, ∀ e ∈ s.2, d ≠ e → s.1.getD d.toNat 0 = s.1.getD e.toNat 0 → meetB ord (netAt nets d) (netAt nets e) = false
  cover : ∀ d ∈ s.2, s.1.getD d.toNat 0 + 1 ≤ ((coverTo nets ord (low nets ord d) nets.length).length : Int)

/-- Nets that stand for all lesser tracks. -/
theorem stand {out done : List Int} {P : Int → Prop} : ∀ (t : Nat), (∀ u : Nat, u < t → ∃ d ∈ done, out.getD d.toNat 0 = (u : Int) ∧ P d) → ∃ l : List Int, l.Nodup ∧ l.length = t ∧ ∀ x ∈ l, x ∈ done ∧ P x ∧ out.getD x.toNat 0 < (t : Int)
  | 0, _ => ⟨[], by simp, rfl, by simp⟩
  | t + 1, h => by
    obtain ⟨l, h1, h2, h3⟩ := stand t (fun u hu => h u (by omega))
    obtain ⟨d, d1, d2, d3⟩ := h t (by omega)
    refine ⟨d :: l, ?_, by simp [h2], ?_⟩
    · rw [List.nodup_cons]
      refine ⟨fun hm => ?_, h1⟩
      have := (h3 d hm).2.2
      omega
    · intro x hx
      rw [List.mem_cons] at hx
      rcases hx with rfl | hx
      · exact ⟨d1, d3, by omega⟩
      · obtain ⟨a, b, c⟩ := h3 x hx
        exact ⟨a, b, by omega⟩

theorem GInv.step {n : Nat} {nets : List (Int × List Int)} {ord : List Int} {p i : Nat} {s : List Int × List Int} (ho : OkNets n nets ord) (ht : TInv nets ord p i s) (h : GInv nets ord s) (hi : i < nets.length) : GInv nets ord (trackStep nets ord p s i) := by
  unfold trackStep
  split
  · rename_i hp
    have hn := ht.notin hp
    have hset : ∀ d ∈ s.2, (s.1.set i (freeOf nets ord s.1 s.2 i : Nat)).getD d.toNat 0 = s.1.getD d.toNat 0 := by
      intro d hd
      have hne : d.toNat ≠ i := by
        intro e2
        have := (ht.done d hd).1
        exact hn (by rw [show (i : Int) = d by omega]; exact hd)
      rw [List.getD_eq_getElem?_getD, List.getD_eq_getElem?_getD, List.getElem?_set_ne (by omega)]
    have hsame : (s.1.set i (freeOf nets ord s.1 s.2 i : Nat)).getD ((i : Int)).toNat 0 = (freeOf nets ord s.1 s.2 i : Nat) := by
      rw [show ((i : Int)).toNat = i by omega, List.getD_eq_getElem?_getD, List.getElem?_set_self (by rw [ht.len]; exact hi)]; rfl
    have hfree : busyTo nets ord s.1 s.2 i (freeOf nets ord s.1 s.2 i : Nat) s.2.length = false :=
      freeFrom_free (f := fun t => busyTo nets ord s.1 s.2 i t s.2.length) (fun t => busy_lt ht i t) (s.2.length + 1) 0 (by omega)
    have hnew : ∀ d ∈ s.2, s.1.getD d.toNat 0 = ((freeOf nets ord s.1 s.2 i : Nat) : Int) → meetB ord (netAt nets d) (nets.getD i (0, [])).2 = false := by
      intro d hd e
      cases hm : meetB ord (netAt nets d) (nets.getD i (0, [])).2 with
      | false => rfl
      | true =>
        obtain ⟨j, hj, rfl⟩ := List.getElem_of_mem hd
        have hg : s.2.getD j 0 = s.2[j] := by rw [List.getD_eq_getElem?_getD, List.getElem?_eq_getElem hj]; rfl
        have : busyTo nets ord s.1 s.2 i (freeOf nets ord s.1 s.2 i : Nat) s.2.length = true := (busyTo_iff (Nat.le_refl _)).2 ⟨j, hj, by rw [hg]; exact e, by rw [hg]; exact hm⟩
        rw [hfree] at this; cases this
    constructor
    · intro d hd e he hne heq
      rw [List.mem_append, List.mem_singleton] at hd he
      rcases hd with hd | rfl
      · rw [hset d hd] at heq
        rcases he with he | rfl
        · rw [hset e he] at heq
          exact h.apart d hd e he hne heq
        · rw [hsame] at heq
          rw [netAt_nat]
          exact hnew d hd heq
      · rw [hsame] at heq
        rcases he with he | rfl
        · rw [hset e he] at heq
          rw [netAt_nat, meetB_comm]
          exact hnew e he heq.symm
        · exact absurd rfl hne
    · intro d hd
      rw [List.mem_append, List.mem_singleton] at hd
      rcases hd with hd | rfl
      · rw [hset d hd]; exact h.cover d hd
      · rw [hsame]
        have hbusy : ∀ u : Nat, u < freeOf nets ord s.1 s.2 i → ∃ d ∈ s.2, s.1.getD d.toNat 0 = (u : Int) ∧ meetB ord (netAt nets d) (nets.getD i (0, [])).2 = true := by
          intro u hu
          have := freeFrom_below (f := fun t => busyTo nets ord s.1 s.2 i t s.2.length) (s.2.length + 1) 0 u (Nat.zero_le _) hu
          obtain ⟨j, h1, h2, h3⟩ := (busyTo_iff (Nat.le_refl _)).1 this
          exact ⟨_, getD_mem_int h1, h2, h3⟩
        obtain ⟨l, l1, l2, l3⟩ := stand _ hbusy
        have hlow : low nets ord (i : Int) = p := by unfold low; rw [netAt_nat]; exact hp
        have hcov : ∀ x ∈ (i : Int) :: l, x ∈ coverTo nets ord (low nets ord (i : Int)) nets.length := by
          intro x hx
          rw [hlow]
          rw [List.mem_cons] at hx
          rcases hx with rfl | hx
          · have := ext_ok ho.ord (ho.cols i hi)
            exact coverTo_mem.2 ⟨i, hi, rfl, covB_iff.2 (by omega)⟩
          · obtain ⟨a, b, _⟩ := l3 x hx
            obtain ⟨d1, d2, d3⟩ := ht.done x a
            obtain ⟨k, k1, k2, k3⟩ := meetB_iff.1 b
            rw [covB_iff] at k2 k3
            rw [hp] at k3
            refine coverTo_mem.2 ⟨x.toNat, by omega, by omega, covB_iff.2 ?_⟩
            rw [← netAt_nat, show ((x.toNat : Nat) : Int) = x by omega]
            omega
        have hnd : ((i : Int) :: l).Nodup := List.nodup_cons.2 ⟨fun hm => hn (l3 _ hm).1, l1⟩
        have := nodup_sub _ _ hnd hcov
        rw [List.length_cons, l2] at this
        omega
  · exact h

theorem GInv.row {n : Nat} {nets : List (Int × List Int)} {ord : List Int} {p : Nat} {s : List Int × List Int} (ho : OkNets n nets ord) (ht : TInv nets ord p 0 s) (h : GInv nets ord s) : ∀ {i : Nat}, i ≤ nets.length → GInv nets ord (rowTo nets ord p s i)
  | 0, _ => h
  | i + 1, hi => (GInv.row ho ht h (by omega)).step ho (ht.row (by omega)) (by omega)

theorem GInv.all {n : Nat} {nets : List (Int × List Int)} {ord : List Int} (ho : OkNets n nets ord) : ∀ (p : Nat), GInv nets ord (tracksTo nets ord p)
  | 0 => ⟨by simp [tracksTo], by simp [tracksTo]⟩
  | p + 1 => (GInv.all ho p).row ho (TInv.all nets ord p) (Nat.le_refl _)

/-- All nets that begin at or before a position are done. -/
theorem row_done {nets : List (Int × List Int)} {ord : List Int} {p : Nat} {s : List Int × List Int} : ∀ (i : Nat), i ≤ nets.length → (∀ d ∈ s.2, d ∈ (rowTo nets ord p s i).2) ∧ ∀ j : Nat, j < i → (extOf ord (nets.getD j (0, [])).2).1 = p → (j : Int) ∈ (rowTo nets ord p s i).2
  | 0, _ => ⟨fun d h => h, fun j h => by omega⟩
  | i + 1, hi => by
    obtain ⟨h1, h2⟩ := row_done (nets := nets) (ord := ord) (p := p) (s := s) i (by omega)
    have hs : ∀ d ∈ (rowTo nets ord p s i).2, d ∈ (rowTo nets ord p s (i + 1)).2 := by
      intro d hd
      show d ∈ (trackStep nets ord p (rowTo nets ord p s i) i).2
      unfold trackStep
      split
      · exact List.mem_append.2 (.inl hd)
      · exact hd
    refine ⟨fun d hd => hs d (h1 d hd), fun j hj hl => ?_⟩
    by_cases e : j = i
    · subst e
      show (j : Int) ∈ (trackStep nets ord p (rowTo nets ord p s j) j).2
      unfold trackStep
      rw [if_pos hl]
      exact List.mem_append.2 (.inr (by simp))
    · exact hs _ (h2 j (by omega) hl)

theorem all_done {nets : List (Int × List Int)} {ord : List Int} : ∀ (p : Nat) (j : Nat), j < nets.length → 0 ≤ (extOf ord (nets.getD j (0, [])).2).1 → (extOf ord (nets.getD j (0, [])).2).1 < p → (j : Int) ∈ (tracksTo nets ord p).2
  | 0, j, _, h1, h2 => by omega
  | p + 1, j, hj, h1, h2 => by
    obtain ⟨a, b⟩ := row_done (nets := nets) (ord := ord) (p := p) (s := tracksTo nets ord p) nets.length (Nat.le_refl _)
    by_cases e : (extOf ord (nets.getD j (0, [])).2).1 = p
    · exact b j hj e
    · exact a _ (all_done p j hj h1 (by omega))

/-- What the tracks of valid nets are. -/
structure TracksOk (nets : List (Int × List Int)) (ord : List Int) (t : List Int) (m : Nat) : Prop where
  len : t.length = nets.length
  rng : ∀ x ∈ t, 0 ≤ x ∧ x < m
  apart : ∀ i k : Nat, i < nets.length → k < nets.length → i ≠ k → t.getD i 0 = t.getD k 0 → meetB ord (nets.getD i (0, [])).2 (nets.getD k (0, [])).2 = false

theorem tracks_ok {n : Nat} {nets : List (Int × List Int)} {ord : List Int} (ho : OkNets n nets ord) : TracksOk nets ord (tracksOf nets ord) (bestTo nets ord ord.length).1.length := by
  have ht := TInv.all nets ord ord.length
  have hg := GInv.all ho ord.length
  have hd : ∀ j : Nat, j < nets.length → (j : Int) ∈ (tracksTo nets ord ord.length).2 := by
    intro j hj
    have := ext_ok ho.ord (ho.cols j hj)
    exact all_done _ j hj this.1 (by rw [ho.ord.len]; omega)
  refine ⟨ht.len, ?_, ?_⟩
  · intro x hx
    obtain ⟨j, hj, rfl⟩ := List.getElem_of_mem hx
    have hj2 : j < nets.length := by rw [← ht.len]; exact hj
    have hm := hd j hj2
    have h1 := ht.bd _ hm
    have h2 := hg.cover _ hm
    have e : (tracksOf nets ord)[j] = (tracksTo nets ord ord.length).1.getD ((j : Int)).toNat 0 := by
      rw [show ((j : Int)).toNat = j by omega, List.getD_eq_getElem?_getD]
      show _ = (tracksOf nets ord)[j]?.getD 0
      rw [List.getElem?_eq_getElem hj]; rfl
    have he := ext_ok ho.ord (ho.cols j hj2)
    have h3 := bestTo_max nets ord ord.length (low nets ord (j : Int)).toNat (by unfold low; rw [netAt_nat, ho.ord.len]; omega)
    rw [show (((low nets ord (j : Int)).toNat : Nat) : Int) = low nets ord (j : Int) by unfold low; rw [netAt_nat]; omega] at h3
    rw [e]
    omega
  · intro i k hi hk hne e
    have := hg.apart _ (hd i hi) _ (hd k hk) (by omega) (by
      rw [show ((i : Int)).toNat = i by omega, show ((k : Int)).toNat = k by omega]
      exact e)
    rwa [netAt_nat, netAt_nat] at this

theorem best_meet {n : Nat} {nets : List (Int × List Int)} {ord : List Int} (_ho : OkNets n nets ord) : (bestTo nets ord ord.length).1.Nodup ∧ (∀ x ∈ (bestTo nets ord ord.length).1, 0 ≤ x ∧ x < nets.length) ∧
    ∀ x ∈ (bestTo nets ord ord.length).1, ∀ y ∈ (bestTo nets ord ord.length).1, meetB ord (netAt nets x) (netAt nets y) = true := by
  rcases bestTo_at nets ord ord.length with h | ⟨p, h1, h2, h3⟩
  · rw [h]; simp
  · rw [h3]
    refine ⟨coverTo_nodup _, ?_, ?_⟩
    · intro x hx
      obtain ⟨i, a, rfl, _⟩ := coverTo_mem.1 hx
      omega
    · intro x hx y hy
      obtain ⟨i, a, rfl, b⟩ := coverTo_mem.1 hx
      obtain ⟨j, c, rfl, d⟩ := coverTo_mem.1 hy
      rw [netAt_nat, netAt_nat]
      exact meetB_iff.2 ⟨p, h1, b, d⟩

/-- Layouts of valid nets: tracks for which no two nets on one meet. -/
structure Lays (nets : List (Int × List Int)) (ord tr : List Int) : Prop where
  len : tr.length = nets.length
  apart : ∀ i k : Nat, i < nets.length → k < nets.length → i ≠ k → tr.getD i 0 = tr.getD k 0 → meetB ord (nets.getD i (0, [])).2 (nets.getD k (0, [])).2 = false

/-- No layout has fewer tracks than the clique has nets. -/
theorem least {n : Nat} {nets : List (Int × List Int)} {ord tr : List Int} (ho : OkNets n nets ord) (h : Lays nets ord tr) : (bestTo nets ord ord.length).1.length ≤ dcnt tr tr.length := by
  obtain ⟨a, b, c⟩ := best_meet ho
  have hmap : ((bestTo nets ord ord.length).1.map fun x => tr.getD x.toNat 0).Nodup := by
    rw [List.nodup_iff_pairwise_ne] at a ⊢
    rw [List.pairwise_map]
    refine List.Pairwise.imp_of_mem (fun {x y} hx hy hne => ?_) a
    intro e
    have hx1 := b x hx
    have hy1 := b y hy
    have := h.apart x.toNat y.toNat (by omega) (by omega) (by omega) e
    have h2 := c x hx y hy
    unfold netAt at h2
    rw [this] at h2
    cases h2
  have := dcnt_above hmap (l := tr) (fun z hz => by
    rw [List.mem_map] at hz
    obtain ⟨x, hx, rfl⟩ := hz
    have hx1 := b x hx
    exact getD_mem_int (by rw [h.len]; omega))
  rwa [List.length_map] at this

/-- There are as many tracks as the clique has nets. -/
theorem tracks_count {n : Nat} {nets : List (Int × List Int)} {ord : List Int} (ho : OkNets n nets ord) : dcnt (tracksOf nets ord) nets.length = (bestTo nets ord ord.length).1.length := by
  have h := tracks_ok ho
  have h1 := dcnt_below h.rng
  have h2 := least ho ⟨h.len, h.apart⟩
  rw [h.len] at h1 h2
  omega
end Go.Proofs.YtggcnnpklkmeoaaGreatDoor
end

section
namespace Go.Proofs.YtggcnnpklkmeoaaGreatDoor
open Go.RowKit Go

theorem rowApart_iff {nets : List (Int × List Int)} {ord tr : List Int} {i : Nat} : ∀ (k : Nat), rowApart nets ord tr i k = true ↔ ∀ j : Nat, j < k → tr.getD i 0 = tr.getD j 0 → meetB ord (nets.getD i (0, [])).2 (nets.getD j (0, [])).2 = false
  | 0 => by simp [rowApart]
  | k + 1 => by
    unfold rowApart
    rw [Bool.and_eq_true, rowApart_iff k, Bool.not_eq_true', Bool.and_eq_false_iff, decide_eq_false_iff_not]
    constructor
    · rintro ⟨h1, h2⟩ j hj e
      by_cases hjk : j = k
      · subst hjk
        rcases h2 with h2 | h2
        · exact absurd e h2
        · exact h2
      · exact h1 j (by omega) e
    · intro h
      refine ⟨fun j hj => h j (by omega), ?_⟩
      by_cases e : tr.getD i 0 = tr.getD k 0
      · exact .inr (h k (by omega) e)
      · exact .inl e

theorem allApart_iff {nets : List (Int × List Int)} {ord tr : List Int} : ∀ (n : Nat), allApart nets ord tr n = true ↔ ∀ i j : Nat, j < i → i < n → tr.getD i 0 = tr.getD j 0 → meetB ord (nets.getD i (0, [])).2 (nets.getD j (0, [])).2 = false
  | 0 => by simp [allApart]
  | n + 1 => by
    unfold allApart
    rw [Bool.and_eq_true, allApart_iff n, rowApart_iff]
    constructor
    · rintro ⟨h1, h2⟩ i j hj hi e
      by_cases hin : i = n
      · subst hin; exact h2 j hj e
      · exact h1 i j hj (by omega) e
    · intro h
      exact ⟨fun i j hj hi => h i j hj (by omega), fun j hj => h n j hj (by omega)⟩

theorem lays_of {nets : List (Int × List Int)} {ord tr : List Int} (h : tracksErr nets ord tr = 0) : Lays nets ord tr := by
  unfold tracksErr at h
  split at h
  · rename_i hl
    split at h
    · split at h
      · rename_i ha
        rw [allApart_iff] at ha
        refine ⟨hl, fun i k hi hk hne e => ?_⟩
        by_cases hik : k < i
        · exact ha i k hik hi e
        · rw [meetB_comm]
          exact ha k i (by omega) hk e.symm
      · cases h
    · cases h
  · cases h

theorem tracksErr_of {nets : List (Int × List Int)} {ord tr : List Int} (h : Lays nets ord tr) (hr : ∀ x ∈ tr, 0 ≤ x ∧ x < 64) : tracksErr nets ord tr = 0 := by
  unfold tracksErr
  rw [if_pos h.len, if_pos (List.all_eq_true.2 fun x hx => by unfold trackOk; have := hr x hx; rw [decide_eq_true (by omega), decide_eq_true (by omega)]; rfl), if_pos ((allApart_iff _).2 fun i j hj hi e => h.apart i j hi (by omega) (by omega) e)]

/-- The tracks of valid nets are a layout. -/
theorem tracksErr_own {n : Nat} {nets : List (Int × List Int)} {ord : List Int} (ho : OkNets n nets ord) (hn : nets.length ≤ 64) : tracksErr nets ord (tracksOf nets ord) = 0 := by
  have h := tracks_ok ho
  have hb := bestTo_le nets ord ord.length
  exact tracksErr_of ⟨h.len, h.apart⟩ fun x hx => by have := h.rng x hx; omega

theorem orderFrom_of {cols : Int} {l : List Int} (hr : ∀ x ∈ l, 0 ≤ x ∧ x < cols) (hn : l.Nodup) : ∀ (n k : Nat), k + n = l.length → orderFrom cols l k n = 0
  | 0, _, _ => rfl
  | n + 1, k, hk => by
    have hkl : k < l.length := by omega
    unfold orderFrom
    have hm := hr _ (getD_mem_int hkl)
    rw [if_neg (by omega), if_neg, orderFrom_of hr hn n (k + 1) (by omega)]
    intro h
    have h2 : (l.take (k + 1)).Nodup := List.Nodup.sublist (List.take_sublist _ _) hn
    rw [int_take hkl, List.nodup_append] at h2
    exact h2.2.2 _ h _ (List.mem_singleton.2 rfl) rfl

theorem rowMeet_of {nets : List (Int × List Int)} {ord cl : List Int} (h : ∀ x ∈ cl, ∀ y ∈ cl, meetB ord (netAt nets x) (netAt nets y) = true) {i : Nat} (hi : i < cl.length) : ∀ (k : Nat), k ≤ cl.length → rowMeet nets ord cl i k = true
  | 0, _ => rfl
  | k + 1, hk => by
    unfold rowMeet
    rw [rowMeet_of h hi k (by omega), h _ (getD_mem_int hi) _ (getD_mem_int (by omega))]; rfl

theorem allMeet_of {nets : List (Int × List Int)} {ord cl : List Int} (h : ∀ x ∈ cl, ∀ y ∈ cl, meetB ord (netAt nets x) (netAt nets y) = true) : ∀ (k : Nat), k ≤ cl.length → allMeet nets ord cl k = true
  | 0, _ => rfl
  | k + 1, hk => by
    unfold allMeet
    rw [allMeet_of h k (by omega), rowMeet_of h (by omega) k (by omega)]; rfl

/-- The clique of valid nets is accepted. -/
theorem cliqueOf_best {n : Nat} {nets : List (Int × List Int)} {ord : List Int} (ho : OkNets n nets ord) : cliqueOf nets ord (bestTo nets ord ord.length).1 = 0 := by
  obtain ⟨a, b, c⟩ := best_meet ho
  unfold cliqueOf
  rw [orderFrom_of b a _ 0 (by omega), if_pos rfl, if_pos (allMeet_of c _ (Nat.le_refl _))]

theorem best_at {nets : List (Int × List Int)} {ord : List Int} (h : 0 < ord.length) : 0 ≤ (bestTo nets ord ord.length).2 ∧ (bestTo nets ord ord.length).2 < ord.length := by
  rcases bestTo_at nets ord ord.length with h1 | ⟨p, h1, h2, _⟩
  · rw [h1]; dsimp only; omega
  · rw [h2]; omega

theorem okNets_of {cols : Nat} {nets : List (Int × List Int)} {ord : List Int} (h1 : netsOf (cols : Int) nets = 0) (h2 : orderOf (cols : Int) ord = 0) : OkNets cols nets ord := by
  obtain ⟨_, _, h⟩ := netsOf_ok h1
  exact ⟨orderOf_ok h2, fun i hi => by have := h i hi; rwa [show ((cols : Int)).toNat = cols by omega] at this⟩
end Go.Proofs.YtggcnnpklkmeoaaGreatDoor
end

section
namespace Go.Proofs.YtggcnnpklkmeoaaGreatDoor
open Go.RowKit Go

/-! Columns with other names: the models stay (no walk). -/

theorem ext_char : ∀ (l : List Int) (s : Int × Int), (0 ≤ s.1 ∧ 0 ≤ s.2) → (∀ x ∈ l, 0 ≤ x) →
    ((l.foldl extStep s).1 = s.1 ∨ (l.foldl extStep s).1 ∈ l) ∧ (l.foldl extStep s).1 ≤ s.1 ∧ (∀ x ∈ l, (l.foldl extStep s).1 ≤ x) ∧
    ((l.foldl extStep s).2 = s.2 ∨ (l.foldl extStep s).2 ∈ l) ∧ s.2 ≤ (l.foldl extStep s).2 ∧ (∀ x ∈ l, x ≤ (l.foldl extStep s).2)
  | [], s, _, _ => by simp
  | p :: r, s, hs, hl => by
    rw [List.foldl_cons]
    have hp := hl p (by simp)
    have h1 : extStep s p = (if p < s.1 then p else s.1, if s.2 < p then p else s.2) := by
      unfold extStep
      by_cases h : p < s.1
      · rw [if_pos (.inr h), if_pos h]
      · rw [if_neg (by omega), if_neg h]
    have hnn : 0 ≤ (extStep s p).1 ∧ 0 ≤ (extStep s p).2 := by rw [h1]; dsimp only; split <;> split <;> omega
    obtain ⟨a, b, c, d, e, f⟩ := ext_char r (extStep s p) hnn (fun x hx => hl x (by simp [hx]))
    generalize List.foldl extStep (extStep s p) r = z at *
    have hx1 : (extStep s p).1 = p ∨ (extStep s p).1 = s.1 := by rw [h1]; dsimp only; split <;> simp
    have hx2 : (extStep s p).2 = p ∨ (extStep s p).2 = s.2 := by rw [h1]; dsimp only; split <;> simp
    have hb1 : (extStep s p).1 ≤ p ∧ (extStep s p).1 ≤ s.1 := by rw [h1]; dsimp only; split <;> omega
    have hb2 : p ≤ (extStep s p).2 ∧ s.2 ≤ (extStep s p).2 := by rw [h1]; dsimp only; split <;> omega
    refine ⟨?_, by omega, ?_, ?_, by omega, ?_⟩
    · rcases a with a | a
      · rcases hx1 with h | h
        · right; rw [a, h]; simp
        · left; rw [a, h]
      · right; exact List.mem_cons_of_mem _ a
    · intro x hx
      rw [List.mem_cons] at hx
      rcases hx with rfl | hx
      · omega
      · exact c x hx
    · rcases d with d | d
      · rcases hx2 with h | h
        · right; rw [d, h]; simp
        · left; rw [d, h]
      · right; exact List.mem_cons_of_mem _ d
    · intro x hx
      rw [List.mem_cons] at hx
      rcases hx with rfl | hx
      · omega
      · exact f x hx

theorem ext_char0 {l : List Int} (hne : l ≠ []) (hl : ∀ x ∈ l, 0 ≤ x) : (l.foldl extStep (-1, -1)).1 ∈ l ∧ (∀ x ∈ l, (l.foldl extStep (-1, -1)).1 ≤ x) ∧ (l.foldl extStep (-1, -1)).2 ∈ l ∧ (∀ x ∈ l, x ≤ (l.foldl extStep (-1, -1)).2) := by
  cases l with
  | nil => exact absurd rfl hne
  | cons p r =>
    rw [List.foldl_cons]
    have hp := hl p (by simp)
    have h1 : extStep (-1, -1) p = (p, p) := by
      unfold extStep
      rw [if_pos (.inl (by decide)), if_pos (by omega)]
    rw [h1]
    obtain ⟨a, b, c, d, e, f⟩ := ext_char r (p, p) ⟨hp, hp⟩ (fun x hx => hl x (by simp [hx]))
    generalize List.foldl extStep (p, p) r = z at *
    refine ⟨?_, ?_, ?_, ?_⟩
    · rcases a with a | a
      · rw [a]; simp
      · exact List.mem_cons_of_mem _ a
    · intro x hx
      rw [List.mem_cons] at hx
      rcases hx with rfl | hx
      · exact b
      · exact c x hx
    · rcases d with d | d
      · rw [d]; simp
      · exact List.mem_cons_of_mem _ d
    · intro x hx
      rw [List.mem_cons] at hx
      rcases hx with rfl | hx
      · exact e
      · exact f x hx

/-- Extents hang on which positions there are alone. -/
theorem ext_same {ord ord' a b : List Int} (ha : a ≠ []) (hm : ∀ p, p ∈ b.map (fun c => posOf c ord') ↔ p ∈ a.map (fun c => posOf c ord)) (hp : ∀ p ∈ a.map (fun c => posOf c ord), 0 ≤ p) : extOf ord' b = extOf ord a := by
  unfold extOf
  have hane : a.map (fun c => posOf c ord) ≠ [] := by simpa using ha
  have hbne : b.map (fun c => posOf c ord') ≠ [] := by
    intro e
    obtain ⟨x, hx⟩ := List.exists_mem_of_ne_nil _ hane
    have := (hm x).2 hx
    rw [e] at this
    simp at this
  generalize a.map (fun c => posOf c ord) = A at *
  generalize b.map (fun c => posOf c ord') = B at *
  obtain ⟨a1, a2, a3, a4⟩ := ext_char0 hane hp
  obtain ⟨b1, b2, b3, b4⟩ := ext_char0 hbne (fun x hx => hp x ((hm x).1 hx))
  have e1 := a2 _ ((hm _).1 b1)
  have e2 := b2 _ ((hm _).2 a1)
  have e3 := a4 _ ((hm _).1 b3)
  have e4 := b4 _ ((hm _).2 a3)
  exact Prod.ext (by omega) (by omega)

theorem sum_erase (g : Int → Nat) {x : Int} : ∀ {b : List Int}, x ∈ b → (b.map g).sum = g x + ((b.erase x).map g).sum
  | y :: r, h => by
    by_cases e : y = x
    · subst e; simp
    · have hx : x ∈ r := by
        rw [List.mem_cons] at h
        rcases h with h | h
        · exact absurd h.symm e
        · exact h
      rw [List.erase_cons_tail (by simpa using e), List.map_cons, List.sum_cons, List.map_cons, List.sum_cons, sum_erase g hx]
      omega

theorem nodup_sum (g : Int → Nat) : ∀ (a b : List Int), a.Nodup → (∀ x ∈ a, x ∈ b) → (a.map g).sum ≤ (b.map g).sum
  | [], b, _, _ => Nat.zero_le _
  | x :: r, b, hn, hs => by
    rw [List.nodup_cons] at hn
    have hx : x ∈ b := hs x (by simp)
    have ih := nodup_sum g r (b.erase x) hn.2 (fun y hy => by
      have hne : y ≠ x := by rintro rfl; exact hn.1 hy
      exact (List.mem_erase_of_ne hne).2 (hs y (by simp [hy])))
    rw [sum_erase g hx, List.map_cons, List.sum_cons]
    omega

theorem colSum_eq (nets : List (Int × List Int)) (ord tr cols : List Int) (below : Int) : ∀ k, k ≤ cols.length → colSum nets ord tr cols below k = (((cols.take k).map (fun c => posOf c ord)).map (fun p => overN nets ord tr below p nets.length)).sum
  | 0, _ => rfl
  | k + 1, hk => by
    unfold colSum
    rw [colSum_eq nets ord tr cols below k (by omega), int_take (by omega), List.map_append, List.map_append, List.sum_append]
    simp

/-- The same nets and the same order, with other names of the columns. -/
structure Ren (nets others : List (Int × List Int)) (ord another : List Int) : Prop where
  len : others.length = nets.length
  olen : another.length = ord.length
  ne : ∀ i, i < nets.length → (nets.getD i (0, [])).2 ≠ []
  mem : ∀ i, i < nets.length → ∀ p, p ∈ (others.getD i (0, [])).2.map (fun c => posOf c another) ↔ p ∈ (nets.getD i (0, [])).2.map (fun c => posOf c ord)
  pos : ∀ i, i < nets.length → ∀ p ∈ (nets.getD i (0, [])).2.map (fun c => posOf c ord), 0 ≤ p
  nod : ∀ i, i < nets.length → ((nets.getD i (0, [])).2.map (fun c => posOf c ord)).Nodup
  nod2 : ∀ i, i < nets.length → ((others.getD i (0, [])).2.map (fun c => posOf c another)).Nodup

variable {nets others : List (Int × List Int)} {ord another : List Int}

theorem Ren.ext (h : Ren nets others ord another) (i : Nat) : extOf another (others.getD i (0, [])).2 = extOf ord (nets.getD i (0, [])).2 := by
  by_cases hi : i < nets.length
  · exact ext_same (h.ne i hi) (h.mem i hi) (h.pos i hi)
  · rw [List.getD_eq_getElem?_getD, List.getD_eq_getElem?_getD, List.getElem?_eq_none (by have := h.len; omega), List.getElem?_eq_none (by omega)]; rfl

theorem Ren.cov (h : Ren nets others ord another) (i : Nat) (p : Int) : covB another (others.getD i (0, [])).2 p = covB ord (nets.getD i (0, [])).2 p := by
  unfold covB; rw [h.ext]

theorem Ren.meet (h : Ren nets others ord another) (i k : Nat) : meetB another (others.getD i (0, [])).2 (others.getD k (0, [])).2 = meetB ord (nets.getD i (0, [])).2 (nets.getD k (0, [])).2 := by
  rw [Bool.eq_iff_iff, meetB_iff, meetB_iff, h.olen]
  simp only [h.cov]

theorem Ren.busy (h : Ren nets others ord another) (out done : List Int) (i : Nat) (t : Int) : ∀ k, busyTo others another out done i t k = busyTo nets ord out done i t k
  | 0 => rfl
  | k + 1 => by
    unfold busyTo netAt
    rw [h.busy out done i t k, h.meet]

theorem Ren.step (h : Ren nets others ord another) (p : Int) (s : List Int × List Int) (i : Nat) : trackStep others another p s i = trackStep nets ord p s i := by
  unfold trackStep freeOf
  rw [h.ext]
  simp only [h.busy]

theorem Ren.row (h : Ren nets others ord another) (p : Int) (s : List Int × List Int) : ∀ i, rowTo others another p s i = rowTo nets ord p s i
  | 0 => rfl
  | i + 1 => by unfold rowTo; rw [h.row p s i, h.step]

theorem Ren.all (h : Ren nets others ord another) : ∀ p, tracksTo others another p = tracksTo nets ord p
  | 0 => by unfold tracksTo; rw [h.len]
  | p + 1 => by unfold tracksTo; rw [h.all p, h.len, h.row]

theorem Ren.tracks (h : Ren nets others ord another) : tracksOf others another = tracksOf nets ord := by unfold tracksOf; rw [h.olen, h.all]

theorem Ren.cover (h : Ren nets others ord another) (p : Int) : ∀ k, coverTo others another p k = coverTo nets ord p k
  | 0 => rfl
  | k + 1 => by unfold coverTo; rw [h.cover p k, h.cov]

theorem Ren.best (h : Ren nets others ord another) : ∀ k, bestTo others another k = bestTo nets ord k
  | 0 => rfl
  | k + 1 => by unfold bestTo; rw [h.best k, h.len]; simp only [h.cover]

theorem Ren.over (h : Ren nets others ord another) (tr : List Int) (track p : Int) : ∀ k, overN others another tr track p k = overN nets ord tr track p k
  | 0 => rfl
  | k + 1 => by unfold overN; rw [h.over tr track p k, h.cov]

theorem Ren.under (h : Ren nets others ord another) (tr : List Int) (below above : Int) : ∀ i, i ≤ nets.length → underTo others another tr below above i = underTo nets ord tr below above i
  | 0, _ => rfl
  | i + 1, hi => by
    unfold underTo
    rw [h.under tr below above i (by omega), colSum_eq _ _ _ _ _ _ (Nat.le_refl _), colSum_eq _ _ _ _ _ _ (Nat.le_refl _), List.take_length, List.take_length, h.len]
    have e : (((others.getD i (0, [])).2.map (fun c => posOf c another)).map (fun p => overN others another tr below p nets.length)).sum = (((nets.getD i (0, [])).2.map (fun c => posOf c ord)).map (fun p => overN nets ord tr below p nets.length)).sum := by
      have ef : (fun p => overN others another tr below p nets.length) = (fun p => overN nets ord tr below p nets.length) := by
        funext p; exact h.over tr below p _
      rw [ef]
      exact Nat.le_antisymm (nodup_sum _ _ _ (h.nod2 i (by omega)) (fun x hx => (h.mem i (by omega) x).1 hx)) (nodup_sum _ _ _ (h.nod i (by omega)) (fun x hx => (h.mem i (by omega) x).2 hx))
    rw [e]

theorem Ren.cross (h : Ren nets others ord another) (tr : List Int) : crossOf others another tr = crossOf nets ord tr := by
  unfold crossOf
  have : und others another tr = und nets ord tr := by
    funext a b
    unfold und
    rw [h.len, h.under tr a b _ (Nat.le_refl _)]
  rw [this]
end Go.Proofs.YtggcnnpklkmeoaaGreatDoor
end

section
namespace Go.Proofs.YtggcnnpklkmeoaaGreatDoor
open Go.RowKit Go

/-! The nets and the order with other names, as BusRenamed makes them. -/

/-- Those of the first k columns whose name is c. -/
def renK (names l : List Int) (c : Int) : Nat → List Int
  | 0 => []
  | k + 1 => renK names l c k ++ if names.getD (l.getD k 0).toNat 0 = c then [c] else []
/-- The names of columns, as far as they are below c. -/
def renC (names l : List Int) : Nat → List Int
  | 0 => []
  | c + 1 => renC names l c ++ renK names l c l.length

def othersOf (names : List Int) (n : Nat) (nets : List (Int × List Int)) : List (Int × List Int) := nets.map fun x => (x.1, renC names x.2 n)
def anotherOf (names ord : List Int) : List Int := ord.map fun x => names.getD x.toNat 0

theorem renK_le (names l : List Int) (c : Int) : ∀ k, (renK names l c k).length ≤ k
  | 0 => Nat.le_refl _
  | k + 1 => by have := renK_le names l c k; unfold renK; split <;> simp <;> omega

theorem renC_le (names l : List Int) : ∀ c, (renC names l c).length ≤ c * l.length
  | 0 => by simp [renC]
  | c + 1 => by
    have h1 := renC_le names l c
    have h2 := renK_le names l c l.length
    unfold renC
    rw [List.length_append, Nat.add_mul]
    omega

theorem renK_mem {names l : List Int} {c x : Int} : ∀ {k : Nat}, x ∈ renK names l c k ↔ x = c ∧ ∃ j : Nat, j < k ∧ names.getD (l.getD j 0).toNat 0 = c
  | 0 => by simp [renK]
  | k + 1 => by
    unfold renK
    rw [List.mem_append, renK_mem]
    constructor
    · rintro (⟨h1, j, h2, h3⟩ | h)
      · exact ⟨h1, j, by omega, h3⟩
      · split at h
        · rename_i hc
          rw [List.mem_singleton] at h
          exact ⟨h, k, by omega, hc⟩
        · simp at h
    · rintro ⟨h1, j, h2, h3⟩
      by_cases e : j = k
      · subst e; right; rw [if_pos h3, h1]; simp
      · exact .inl ⟨h1, j, by omega, h3⟩

theorem renC_mem {names l : List Int} {x : Int} : ∀ {m : Nat}, x ∈ renC names l m ↔ 0 ≤ x ∧ x < m ∧ ∃ j : Nat, j < l.length ∧ names.getD (l.getD j 0).toNat 0 = x
  | 0 => by simp [renC]; omega
  | m + 1 => by
    unfold renC
    rw [List.mem_append, renC_mem, renK_mem]
    constructor
    · rintro (⟨h1, h2, h3⟩ | ⟨rfl, h3⟩)
      · exact ⟨h1, by omega, h3⟩
      · exact ⟨by omega, by omega, h3⟩
    · rintro ⟨h1, h2, h3⟩
      by_cases e : x = m
      · right; exact ⟨e, by rw [← e]; exact h3⟩
      · left; exact ⟨h1, by omega, h3⟩

theorem getD_inj {l : List Int} (h : l.Nodup) {i j : Nat} (hi : i < l.length) (hj : j < l.length) (e : l.getD i 0 = l.getD j 0) : i = j := by
  rw [List.getD_eq_getElem?_getD, List.getD_eq_getElem?_getD, List.getElem?_eq_getElem hi, List.getElem?_eq_getElem hj] at e
  simp only [Option.getD_some] at e
  have hp := List.pairwise_iff_getElem.1 (List.nodup_iff_pairwise_ne.1 h)
  by_cases h1 : i < j
  · exact absurd e (hp i j hi hj h1)
  · by_cases h2 : j < i
    · exact absurd e.symm (hp j i hj hi h2)
    · omega

/-- Names are a valid order; columns are in range and all different. -/
structure RenOk (n : Nat) (names l : List Int) : Prop where
  names : OkOrd n names
  rng : ∀ c ∈ l, 0 ≤ c ∧ c < (n : Int)
  nod : l.Nodup

theorem RenOk.inj {n : Nat} {names l : List Int} (h : RenOk n names l) {i j : Nat} (hi : i < l.length) (hj : j < l.length) (e : names.getD (l.getD i 0).toNat 0 = names.getD (l.getD j 0).toNat 0) : i = j := by
  have h1 := h.rng _ (getD_mem_int hi)
  have h2 := h.rng _ (getD_mem_int hj)
  have := getD_inj h.names.nod (by rw [h.names.len]; omega) (by rw [h.names.len]; omega) e
  exact getD_inj h.nod hi hj (by omega)

theorem renK_one {n : Nat} {names l : List Int} (h : RenOk n names l) (c : Int) : ∀ k, k ≤ l.length → renK names l c k = [] ∨ renK names l c k = [c]
  | 0, _ => .inl rfl
  | k + 1, hk => by
    unfold renK
    rcases renK_one h c k (by omega) with e | e
    · rw [e]; split <;> simp
    · have hm : c ∈ renK names l c k := by rw [e]; simp
      obtain ⟨_, j, hj, hc⟩ := renK_mem.1 hm
      rw [if_neg, e]
      · simp
      · intro h2
        have := h.inj (i := j) (j := k) (by omega) (by omega) (hc.trans h2.symm)
        omega

theorem renC_asc {n : Nat} {names l : List Int} (h : RenOk n names l) : ∀ m, (renC names l m).Pairwise (· < ·)
  | 0 => by simp [renC]
  | m + 1 => by
    unfold renC
    rw [List.pairwise_append]
    refine ⟨renC_asc h m, ?_, ?_⟩
    · rcases renK_one h m l.length (Nat.le_refl _) with e | e <;> rw [e] <;> simp
    · intro a ha b hb
      have := (renC_mem.1 ha).2.1
      have := (renK_mem.1 hb).1
      omega

theorem colsFrom_of {cols : Int} {l : List Int} (hr : ∀ x ∈ l, 0 ≤ x ∧ x < cols) (ha : l.Pairwise (· < ·)) : ∀ (n k : Nat), k + n = l.length → colsFrom cols l k n = 0
  | 0, _, _ => rfl
  | n + 1, k, hk => by
    have hkl : k < l.length := by omega
    unfold colsFrom
    have hm := hr _ (getD_mem_int hkl)
    rw [if_neg (by omega), if_neg, colsFrom_of hr ha n (k + 1) (by omega)]
    rintro ⟨h1, h2⟩
    have h3 := List.pairwise_iff_getElem.1 ha (k - 1) k (by omega) hkl (by omega)
    rw [List.getD_eq_getElem?_getD, List.getD_eq_getElem?_getD, List.getElem?_eq_getElem hkl, List.getElem?_eq_getElem (by omega)] at h2
    simp only [Option.getD_some] at h2
    omega

theorem colsFrom_asc {cols : Int} {l : List Int} : ∀ (n k : Nat), k + n = l.length → colsFrom cols l k n = 0 → (l.take k).Pairwise (· < ·) → l.Pairwise (· < ·)
  | 0, k, hk, _, h => by rwa [List.take_of_length_le (by omega)] at h
  | n + 1, k, hk, h, h1 => by
    unfold colsFrom at h
    split at h
    · omega
    · split at h
      · omega
      · rename_i hb
        have hkl : k < l.length := by omega
        refine colsFrom_asc n (k + 1) (by omega) h ?_
        rw [int_take hkl, List.pairwise_append]
        refine ⟨h1, by simp, ?_⟩
        intro a ha b hb2
        rw [List.mem_singleton] at hb2
        subst hb2
        by_cases hk0 : k = 0
        · subst hk0; simp at ha
        · have hlast : a ≤ l.getD (k - 1) 0 := by
            obtain ⟨j, hj, rfl⟩ := List.getElem_of_mem ha
            rw [List.length_take] at hj
            have e : (l.take k)[j] = l[j] := List.getElem_take ..
            rw [e, List.getD_eq_getElem?_getD, List.getElem?_eq_getElem (show k - 1 < l.length by omega)]
            show l[j] ≤ l[k - 1]
            by_cases hjk : j = k - 1
            · subst hjk; exact Int.le_refl _
            · have := List.pairwise_iff_getElem.1 h1 j (k - 1) (by rw [List.length_take]; omega) (by rw [List.length_take]; omega) (by omega)
              rw [List.getElem_take, List.getElem_take] at this
              omega
          omega

theorem netsOf_asc {cols : Int} {xs : List (Int × List Int)} (h : netsOf cols xs = 0) {i : Nat} (hi : i < xs.length) : (xs.getD i (0, [])).2.Pairwise (· < ·) := by
  unfold netsOf at h
  split at h
  · omega
  · split at h
    · omega
    · have he := netsFrom_ok xs.length 0 (by omega) h i (Nat.zero_le _) hi
      unfold netErr at he
      split at he
      · omega
      · split at he
        · omega
        · split at he
          · omega
          · exact colsFrom_asc _ 0 (by omega) he (by simp)

theorem asc_nodup {l : List Int} (h : l.Pairwise (· < ·)) : l.Nodup := by
  rw [List.nodup_iff_pairwise_ne]
  exact h.imp (fun {a b} h => by omega)

theorem posFrom_map {n : Nat} {names : List Int} (hn : OkOrd n names) {c : Int} (hc : 0 ≤ c ∧ c < n) : ∀ (ord : List Int) (i : Nat), (∀ x ∈ ord, 0 ≤ x ∧ x < (n : Int)) → posFrom (names.getD c.toNat 0) (ord.map fun x => names.getD x.toNat 0) i = posFrom c ord i
  | [], i, _ => rfl
  | y :: r, i, h => by
    have hy := h y (by simp)
    rw [List.map_cons]
    unfold posFrom
    rw [posFrom_map hn hc r (i + 1) (fun x hx => h x (by simp [hx]))]
    by_cases e : y = c
    · subst e; rw [if_pos rfl, if_pos rfl]
    · rw [if_neg e, if_neg]
      intro h2
      have := getD_inj hn.nod (by rw [hn.len]; omega) (by rw [hn.len]; omega) h2
      omega

theorem posOf_another {n : Nat} {names ord : List Int} (hn : OkOrd n names) (ho : OkOrd n ord) {c : Int} (hc : 0 ≤ c ∧ c < n) : posOf (names.getD c.toNat 0) (anotherOf names ord) = posOf c ord :=
  posFrom_map hn hc ord 0 ho.rng

theorem posFrom_get {x : Int} : ∀ {l : List Int} {i : Nat}, x ∈ l → l.getD (posFrom x l i - i).toNat 0 = x
  | y :: r, i, h => by
    unfold posFrom
    split
    · rename_i e
      rw [show (((i : Int) - i).toNat) = 0 by omega]
      exact e
    · rename_i e
      have hx : x ∈ r := by
        rw [List.mem_cons] at h
        rcases h with h | h
        · exact absurd h.symm e
        · exact h
      have h1 := posFrom_mem (i := i + 1) hx
      have h2 := posFrom_get (i := i + 1) hx
      obtain ⟨k, hk⟩ : ∃ k : Nat, (posFrom x r (i + 1) - i).toNat = k + 1 := ⟨(posFrom x r (i + 1) - i).toNat - 1, by omega⟩
      rw [hk, List.getD_cons_succ, ← h2]
      congr 1
      · omega

theorem posOf_inj {x y : Int} {l : List Int} (hx : x ∈ l) (hy : y ∈ l) (e : posOf x l = posOf y l) : x = y := by
  have h1 := posFrom_get (i := 0) hx
  have h2 := posFrom_get (i := 0) hy
  unfold posOf at e
  rw [e] at h1
  exact h1.symm.trans h2

theorem pos_nodup {ord l : List Int} (hl : l.Nodup) (hm : ∀ c ∈ l, c ∈ ord) : (l.map fun c => posOf c ord).Nodup := by
  rw [List.nodup_iff_pairwise_ne] at hl ⊢
  rw [List.pairwise_map]
  exact hl.imp_of_mem (fun {a b} ha hb hne e => hne (posOf_inj (hm a ha) (hm b hb) e))

theorem another_ok {n : Nat} {names ord : List Int} (hn : OkOrd n names) (ho : OkOrd n ord) : OkOrd n (anotherOf names ord) := by
  refine ⟨by unfold anotherOf; rw [List.length_map, ho.len], ?_, ?_⟩
  · intro x hx
    unfold anotherOf at hx
    rw [List.mem_map] at hx
    obtain ⟨y, hy, rfl⟩ := hx
    have := ho.rng y hy
    exact hn.rng _ (getD_mem_int (by rw [hn.len]; omega))
  · unfold anotherOf
    have := ho.nod
    rw [List.nodup_iff_pairwise_ne] at this ⊢
    rw [List.pairwise_map]
    refine this.imp_of_mem (fun {a b} ha hb hne e => hne ?_)
    have h1 := ho.rng a ha
    have h2 := ho.rng b hb
    have := getD_inj hn.nod (by rw [hn.len]; omega) (by rw [hn.len]; omega) e
    omega

theorem others_get (names : List Int) (n : Nat) (nets : List (Int × List Int)) {i : Nat} (hi : i < nets.length) : (othersOf names n nets).getD i (0, []) = ((nets.getD i (0, [])).1, renC names (nets.getD i (0, [])).2 n) := by
  unfold othersOf
  rw [List.getD_eq_getElem?_getD, List.getD_eq_getElem?_getD, List.getElem?_map, List.getElem?_eq_getElem hi]; rfl

theorem ren_of {n : Nat} {nets : List (Int × List Int)} {ord names : List Int} (h1 : netsOf (n : Int) nets = 0) (h2 : orderOf (n : Int) ord = 0) (h3 : orderOf (n : Int) names = 0) :
    Ren nets (othersOf names n nets) ord (anotherOf names ord) := by
  have ho := okNets_of h1 h2
  have hn := orderOf_ok h3
  have han := another_ok hn ho.ord
  have hr : ∀ i, i < nets.length → RenOk n names (nets.getD i (0, [])).2 := fun i hi => ⟨hn, (ho.cols i hi).2, asc_nodup (netsOf_asc h1 hi)⟩
  refine ⟨by unfold othersOf; rw [List.length_map], by unfold anotherOf; rw [List.length_map], fun i hi => (ho.cols i hi).1, ?_, ?_, ?_, ?_⟩
  · intro i hi p
    rw [others_get names n nets hi, List.mem_map, List.mem_map]
    constructor
    · rintro ⟨x, hx, rfl⟩
      obtain ⟨_, _, j, hj, hc⟩ := renC_mem.1 hx
      refine ⟨_, getD_mem_int hj, ?_⟩
      rw [← hc, posOf_another hn ho.ord ((ho.cols i hi).2 _ (getD_mem_int hj))]
    · rintro ⟨c, hc, rfl⟩
      have hcr := (ho.cols i hi).2 c hc
      obtain ⟨j, hj, e⟩ := List.getElem_of_mem hc
      refine ⟨names.getD c.toNat 0, renC_mem.2 ?_, posOf_another hn ho.ord hcr⟩
      have := hn.rng _ (getD_mem_int (l := names) (j := c.toNat) (by rw [hn.len]; omega))
      refine ⟨this.1, this.2, j, hj, ?_⟩
      rw [List.getD_eq_getElem?_getD (l := (nets.getD i (0, [])).2), List.getElem?_eq_getElem hj, e]; rfl
  · intro i hi p hp
    rw [List.mem_map] at hp
    obtain ⟨c, hc, rfl⟩ := hp
    have hcr := (ho.cols i hi).2 c hc
    exact (posOf_in (ho.ord.all hcr.1 hcr.2)).1
  · intro i hi
    exact pos_nodup (hr i hi).nod (fun c hc => ho.ord.all ((ho.cols i hi).2 c hc).1 ((ho.cols i hi).2 c hc).2)
  · intro i hi
    rw [others_get names n nets hi]
    refine pos_nodup (asc_nodup (renC_asc (hr i hi) n)) (fun c hc => ?_)
    have := renC_mem.1 hc
    exact han.all this.1 this.2.1

theorem another_order {n : Nat} {ord names : List Int} (h2 : orderOf (n : Int) ord = 0) (h3 : orderOf (n : Int) names = 0) : orderOf (n : Int) (anotherOf names ord) = 0 := by
  have h := another_ok (orderOf_ok h3) (orderOf_ok h2)
  unfold orderOf
  rw [if_pos (by rw [h.len]), orderFrom_of h.rng h.nod _ 0 (by omega)]

theorem netsFrom_of {cols : Int} {xs : List (Int × List Int)} : ∀ (n k : Nat), k + n = xs.length → (∀ i, k ≤ i → i < xs.length → netErr cols (xs.take i) (xs.getD i (0, [])) = 0) → netsFrom cols xs k n = 0
  | 0, _, _, _ => rfl
  | n + 1, k, hk, h => by
    unfold netsFrom
    rw [if_pos (h k (Nat.le_refl _) (by omega)), netsFrom_of n (k + 1) (by omega) (fun i h1 h2 => h i (by omega) h2)]

theorem others_ok {n : Nat} {nets : List (Int × List Int)} {names : List Int} (h1 : netsOf (n : Int) nets = 0) (h3 : orderOf (n : Int) names = 0) : netsOf (n : Int) (othersOf names n nets) = 0 := by
  have hn := orderOf_ok h3
  obtain ⟨a, b, c⟩ := netsOf_ok h1
  have hlen : (othersOf names n nets).length = nets.length := by unfold othersOf; rw [List.length_map]
  unfold netsOf
  rw [if_neg (by omega), if_neg (by rw [hlen]; omega)]
  refine netsFrom_of _ 0 (by omega) (fun i _ hi => ?_)
  rw [hlen] at hi
  have hcols := c i hi
  rw [show ((n : Int)).toNat = n by omega] at hcols
  have hr : RenOk n names (nets.getD i (0, [])).2 := ⟨hn, hcols.2, asc_nodup (netsOf_asc h1 hi)⟩
  have he : netErr n (nets.take i) (nets.getD i (0, [])) = 0 := by
    have h := h1
    unfold netsOf at h
    rw [if_neg (by omega), if_neg (by omega)] at h
    exact netsFrom_ok nets.length 0 (by omega) h i (Nat.zero_le _) hi
  rw [others_get names n nets hi]
  have hsh : ((othersOf names n nets).take i).map (·.1) = (nets.take i).map (·.1) := by
    unfold othersOf
    rw [← List.map_take, List.map_map]
    rfl
  unfold netErr at he ⊢
  dsimp only
  rw [hsh]
  split at he
  · omega
  · rename_i ha
    rw [if_neg ha]
    split at he
    · omega
    · rename_i hb
      rw [if_neg hb]
      have hne : renC names (nets.getD i (0, [])).2 n ≠ [] := by
        cases hl : (nets.getD i (0, [])).2 with
        | nil => exact absurd hl hcols.1
        | cons y r =>
          intro e
          have hy : y ∈ (nets.getD i (0, [])).2 := by rw [hl]; simp
          have hyr := hcols.2 y hy
          obtain ⟨j, hj, ej⟩ := List.getElem_of_mem hy
          have := hn.rng _ (getD_mem_int (l := names) (j := y.toNat) (by rw [hn.len]; omega))
          have hm : names.getD y.toNat 0 ∈ renC names (nets.getD i (0, [])).2 n := by
            refine renC_mem.2 ⟨this.1, this.2, j, hj, ?_⟩
            rw [List.getD_eq_getElem?_getD (l := (nets.getD i (0, [])).2), List.getElem?_eq_getElem hj, ej]; rfl
          rw [hl, e] at hm
          simp at hm
      rw [if_neg hne]
      exact colsFrom_of (fun x hx => by have := renC_mem.1 hx; omega) (renC_asc hr n) _ 0 (by omega)
end Go.Proofs.YtggcnnpklkmeoaaGreatDoor
end

section
namespace Go.Proofs.YtggcnnpklkmeoaaGreatDoor
open Go.RowKit Go

/-! The code's tracks: for each track the greatest position that is taken. -/

/-- The least track whose end lies ahead of a position. -/
def cFree (p : Int) : List Int → Nat
  | [] => 0
  | e :: r => if p ≤ e then cFree p r + 1 else 0

theorem cFree_le (p : Int) : ∀ l : List Int, cFree p l ≤ l.length
  | [] => Nat.le_refl _
  | e :: r => by
    have := cFree_le p r
    unfold cFree
    split
    · simp only [List.length_cons]; omega
    · exact Nat.zero_le _

theorem cFree_below {p : Int} : ∀ {l : List Int} {t : Nat}, t < cFree p l → p ≤ l.getD t 0
  | [], t, h => by unfold cFree at h; omega
  | e :: r, t, h => by
    unfold cFree at h
    split at h
    · rename_i he
      cases t with
      | zero => exact he
      | succ t => exact cFree_below (l := r) (t := t) (by omega)
    · omega

theorem cFree_free {p : Int} : ∀ {l : List Int}, cFree p l < l.length → l.getD (cFree p l) 0 < p
  | [], h => by simp at h
  | e :: r, h => by
    unfold cFree at h ⊢
    split
    · rename_i he
      rw [if_pos he] at h
      simp only [List.length_cons] at h
      exact cFree_free (l := r) (by omega)
    · rename_i he
      show e < p
      omega

def endsSet (ends : List Int) (t : Nat) (h : Int) : List Int := if t = ends.length then ends ++ [h] else ends.set t h

def highOf (nets : List (Int × List Int)) (ord : List Int) (i : Nat) : Int := (extOf ord (nets.getD i (0, [])).2).2

def cStep (nets : List (Int × List Int)) (ord : List Int) (p : Int) (s : List Int × List Int) (i : Nat) : List Int × List Int :=
  if (extOf ord (nets.getD i (0, [])).2).1 = p then (s.1.set i (cFree p s.2 : Nat), endsSet s.2 (cFree p s.2) (highOf nets ord i)) else s

def cRow (nets : List (Int × List Int)) (ord : List Int) (p : Int) (s : List Int × List Int) : Nat → List Int × List Int
  | 0 => s
  | i + 1 => cStep nets ord p (cRow nets ord p s i) i

def cTracks (nets : List (Int × List Int)) (ord : List Int) : Nat → List Int × List Int
  | 0 => (List.replicate nets.length 0, [])
  | p + 1 => cRow nets ord p (cTracks nets ord p) nets.length

/-- The ends of the tracks are those of the nets that are done. -/
structure EInv (nets : List (Int × List Int)) (ord : List Int) (s c : List Int × List Int) : Prop where
  same : c.1 = s.1
  up : ∀ d ∈ s.2, 0 ≤ s.1.getD d.toNat 0 ∧ (s.1.getD d.toNat 0).toNat < c.2.length ∧ highOf nets ord d.toNat ≤ c.2.getD (s.1.getD d.toNat 0).toNat 0
  down : ∀ t, t < c.2.length → ∃ d ∈ s.2, s.1.getD d.toNat 0 = (t : Int) ∧ highOf nets ord d.toNat = c.2.getD t 0

theorem free_eq {f : Nat → Bool} {n a m : Nat} (h : ∀ t, f t = true → t < n) (hm : n < m) (h1 : f a = false) (h2 : ∀ u, u < a → f u = true) : freeFrom f 0 m = a := by
  have h3 := freeFrom_free (f := f) h m 0 (by omega)
  have h4 := fun u (hu : u < freeFrom f 0 m) => freeFrom_below (f := f) m 0 u (Nat.zero_le _) hu
  by_cases c1 : a < freeFrom f 0 m
  · have := h4 a c1; rw [h1] at this; cases this
  · by_cases c2 : freeFrom f 0 m < a
    · have := h2 _ c2; rw [h3] at this; cases this
    · omega

theorem endsSet_len {ends : List Int} {t : Nat} {h : Int} (ht : t ≤ ends.length) : ends.length ≤ (endsSet ends t h).length ∧ t < (endsSet ends t h).length ∧ (endsSet ends t h).length ≤ ends.length + 1 := by
  unfold endsSet
  split
  · simp; omega
  · simp; omega

theorem endsSet_at {ends : List Int} {t : Nat} {h : Int} (ht : t ≤ ends.length) : (endsSet ends t h).getD t 0 = h := by
  unfold endsSet
  split
  · rename_i e
    rw [List.getD_eq_getElem?_getD, List.getElem?_append_right (by omega), e, Nat.sub_self]; rfl
  · rw [List.getD_eq_getElem?_getD, List.getElem?_set_self (by omega)]; rfl

theorem endsSet_ne {ends : List Int} {t u : Nat} {h : Int} (hu : u < ends.length) (hne : u ≠ t) : (endsSet ends t h).getD u 0 = ends.getD u 0 := by
  unfold endsSet
  split
  · rw [List.getD_eq_getElem?_getD, List.getD_eq_getElem?_getD, List.getElem?_append_left hu]
  · rw [List.getD_eq_getElem?_getD, List.getD_eq_getElem?_getD, List.getElem?_set_ne (by omega)]

theorem EInv.step {n : Nat} {nets : List (Int × List Int)} {ord : List Int} {p i : Nat} {s c : List Int × List Int} (ho : OkNets n nets ord) (ht : TInv nets ord p i s) (h : EInv nets ord s c) (hi : i < nets.length) : EInv nets ord (trackStep nets ord p s i) (cStep nets ord p c i) := by
  unfold trackStep cStep
  by_cases hp : (extOf ord (nets.getD i (0, [])).2).1 = p
  · rw [if_pos hp, if_pos hp]
    have hn := ht.notin hp
    have hok := ext_ok ho.ord (ho.cols i hi)
    have hhi : (p : Int) ≤ highOf nets ord i := by unfold highOf; omega
    have hf : ∀ u : Nat, busyTo nets ord s.1 s.2 i u s.2.length = true ↔ u < c.2.length ∧ (p : Int) ≤ c.2.getD u 0 := by
      intro u
      rw [busyTo_iff (Nat.le_refl _)]
      constructor
      · rintro ⟨j, h1, h2, h3⟩
        have hd := getD_mem_int h1
        obtain ⟨a, b, e⟩ := h.up _ hd
        rw [h2] at a b e
        obtain ⟨q, _, q1, q2⟩ := meetB_iff.1 h3
        rw [covB_iff] at q1 q2
        rw [hp] at q2
        have : (extOf ord (netAt nets (s.2.getD j 0))).2 = highOf nets ord (s.2.getD j 0).toNat := rfl
        refine ⟨by omega, ?_⟩
        rw [show ((u : Int)).toNat = u by omega] at e
        omega
      · rintro ⟨h1, h2⟩
        obtain ⟨d, d1, d2, d3⟩ := h.down u h1
        obtain ⟨j, hj, rfl⟩ := List.getElem_of_mem d1
        have hg : s.2.getD j 0 = s.2[j] := by rw [List.getD_eq_getElem?_getD, List.getElem?_eq_getElem hj]; rfl
        obtain ⟨e1, e2, e3⟩ := ht.done _ d1
        refine ⟨j, hj, by rw [hg]; exact d2, ?_⟩
        rw [hg]
        refine meetB_iff.2 ⟨p, by rw [ho.ord.len]; omega, covB_iff.2 ⟨by omega, ?_⟩, covB_iff.2 ⟨by omega, by omega⟩⟩
        have : (extOf ord (netAt nets s.2[j])).2 = highOf nets ord (s.2[j]).toNat := rfl
        omega
    have hfree : freeOf nets ord s.1 s.2 i = cFree p c.2 := by
      unfold freeOf
      refine free_eq (n := s.2.length) (fun t => busy_lt ht i t) (by omega) ?_ ?_
      · rw [Bool.eq_false_iff]
        intro hb
        obtain ⟨h1, h2⟩ := (hf _).1 hb
        have := cFree_free h1
        omega
      · intro u hu
        have := cFree_le p c.2
        exact (hf u).2 ⟨by omega, cFree_below hu⟩
    rw [hfree]
    have hcl := cFree_le p c.2
    obtain ⟨l1, l2, l3⟩ := endsSet_len (h := highOf nets ord i) hcl
    have hset : ∀ d ∈ s.2, (s.1.set i (cFree p c.2 : Nat)).getD d.toNat 0 = s.1.getD d.toNat 0 := by
      intro d hd
      have hne : d.toNat ≠ i := by
        intro e2
        have := (ht.done d hd).1
        exact hn (by rw [show (i : Int) = d by omega]; exact hd)
      rw [List.getD_eq_getElem?_getD, List.getD_eq_getElem?_getD, List.getElem?_set_ne (by omega)]
    have hsame : (s.1.set i (cFree p c.2 : Nat)).getD ((i : Int)).toNat 0 = (cFree p c.2 : Nat) := by
      rw [show ((i : Int)).toNat = i by omega, List.getD_eq_getElem?_getD, List.getElem?_set_self (by rw [ht.len]; exact hi)]; rfl
    constructor
    · show c.1.set i _ = s.1.set i _
      rw [h.same]
    · intro d hd
      show 0 ≤ (s.1.set i (cFree p c.2 : Nat)).getD d.toNat 0 ∧ ((s.1.set i (cFree p c.2 : Nat)).getD d.toNat 0).toNat < (endsSet c.2 (cFree p c.2) (highOf nets ord i)).length ∧ highOf nets ord d.toNat ≤ (endsSet c.2 (cFree p c.2) (highOf nets ord i)).getD ((s.1.set i (cFree p c.2 : Nat)).getD d.toNat 0).toNat 0
      rw [List.mem_append, List.mem_singleton] at hd
      rcases hd with hd | rfl
      · rw [hset d hd]
        obtain ⟨a, b, e⟩ := h.up d hd
        refine ⟨a, by omega, ?_⟩
        by_cases hne : (s.1.getD d.toNat 0).toNat = cFree p c.2
        · rw [hne, endsSet_at hcl]
          have := cFree_free (p := p) (l := c.2) (by omega)
          rw [hne] at e
          omega
        · rw [endsSet_ne b hne]; exact e
      · rw [hsame]
        refine ⟨by omega, by omega, ?_⟩
        rw [show (((cFree p c.2 : Nat) : Int)).toNat = cFree p c.2 by omega, endsSet_at hcl, show ((i : Int)).toNat = i by omega]
        exact Int.le_refl _
    · intro t htl
      show ∃ d ∈ s.2 ++ [(i : Int)], (s.1.set i (cFree p c.2 : Nat)).getD d.toNat 0 = (t : Int) ∧ highOf nets ord d.toNat = (endsSet c.2 (cFree p c.2) (highOf nets ord i)).getD t 0
      by_cases hte : t = cFree p c.2
      · refine ⟨(i : Int), by simp, ?_, ?_⟩
        · rw [hsame, hte]
        · rw [hte, endsSet_at hcl, show ((i : Int)).toNat = i by omega]
      · have hlt : t < c.2.length := by
          change t < (endsSet c.2 (cFree p c.2) (highOf nets ord i)).length at htl
          unfold endsSet at htl
          split at htl
          · simp at htl; omega
          · simpa using htl
        obtain ⟨d, d1, d2, d3⟩ := h.down t hlt
        exact ⟨d, List.mem_append.2 (.inl d1), by rw [hset d d1]; exact d2, by rw [endsSet_ne hlt hte]; exact d3⟩
  · rw [if_neg hp, if_neg hp]; exact h

theorem EInv.row {n : Nat} {nets : List (Int × List Int)} {ord : List Int} {p : Nat} {s c : List Int × List Int} (ho : OkNets n nets ord) (ht : TInv nets ord p 0 s) (h : EInv nets ord s c) : ∀ {i : Nat}, i ≤ nets.length → EInv nets ord (rowTo nets ord p s i) (cRow nets ord p c i)
  | 0, _ => h
  | i + 1, hi => (EInv.row ho ht h (by omega)).step ho (ht.row (by omega)) (by omega)

theorem EInv.all {n : Nat} {nets : List (Int × List Int)} {ord : List Int} (ho : OkNets n nets ord) : ∀ (p : Nat), EInv nets ord (tracksTo nets ord p) (cTracks nets ord p)
  | 0 => ⟨rfl, by simp [tracksTo], by simp [cTracks]⟩
  | p + 1 => (EInv.all ho p).row ho (TInv.all nets ord p) (Nat.le_refl _)

theorem cTracks_eq {n : Nat} {nets : List (Int × List Int)} {ord : List Int} (ho : OkNets n nets ord) : (cTracks nets ord ord.length).1 = tracksOf nets ord := (EInv.all ho ord.length).same

theorem cTracks_count {n : Nat} {nets : List (Int × List Int)} {ord : List Int} (ho : OkNets n nets ord) : (cTracks nets ord ord.length).2.length = dcnt (tracksOf nets ord) nets.length := by
  have h := EInv.all ho ord.length
  have ht := TInv.all nets ord ord.length
  have hd : ∀ j : Nat, j < nets.length → (j : Int) ∈ (tracksTo nets ord ord.length).2 := by
    intro j hj
    have := ext_ok ho.ord (ho.cols j hj)
    exact all_done _ j hj this.1 (by rw [ho.ord.len]; omega)
  have hlen : (tracksOf nets ord).length = nets.length := ht.len
  have h1 : dcnt (tracksOf nets ord) (tracksOf nets ord).length ≤ (cTracks nets ord ord.length).2.length := by
    refine dcnt_below fun x hx => ?_
    obtain ⟨j, hj, rfl⟩ := List.getElem_of_mem hx
    have e : (tracksOf nets ord)[j] = (tracksTo nets ord ord.length).1.getD ((j : Int)).toNat 0 := by
      rw [show ((j : Int)).toNat = j by omega, List.getD_eq_getElem?_getD]
      show _ = (tracksOf nets ord)[j]?.getD 0
      rw [List.getElem?_eq_getElem hj]; rfl
    obtain ⟨a, b, _⟩ := h.up _ (hd j (by omega))
    rw [e]
    omega
  have h2 : (upTo (cTracks nets ord ord.length).2.length).length ≤ dcnt (tracksOf nets ord) (tracksOf nets ord).length := by
    refine dcnt_above ?_ ?_
    · unfold upTo
      rw [List.nodup_iff_pairwise_ne, List.pairwise_map]
      exact (List.nodup_iff_pairwise_ne.1 List.nodup_range).imp (fun {a b} hab => by omega)
    · intro x hx
      rw [upTo_mem] at hx
      obtain ⟨d, d1, d2, _⟩ := h.down x.toNat (by omega)
      have hb := ht.done d d1
      have : (tracksTo nets ord ord.length).1.getD d.toNat 0 ∈ tracksOf nets ord := getD_mem_int (by rw [hlen]; omega)
      rw [d2] at this
      rwa [show ((x.toNat : Nat) : Int) = x by omega] at this
  rw [upTo_len] at h2
  rw [hlen] at h1 h2
  omega

/-! The extents by least and greatest of positions. -/

def mmStep (lh : Int × Int) (p : Int) : Int × Int := (min lh.1 p, max lh.2 p)

/-- The extent behind the first k columns. -/
def mmOf (ord cols : List Int) (k : Nat) : Int × Int := ((cols.take k).map fun c => posOf c ord).foldl mmStep (posOf (cols.getD 0 0) ord, posOf (cols.getD 0 0) ord)

theorem mmOf_zero (ord cols : List Int) : mmOf ord cols 0 = (posOf (cols.getD 0 0) ord, posOf (cols.getD 0 0) ord) := by unfold mmOf; rw [List.take_zero]; rfl

theorem mmOf_succ (ord : List Int) {cols : List Int} {k : Nat} (h : k < cols.length) : mmOf ord cols (k + 1) = mmStep (mmOf ord cols k) (posOf (cols.getD k 0) ord) := by
  unfold mmOf
  rw [int_take h, List.map_append, List.foldl_append]; rfl

theorem mm_fold : ∀ (l : List Int) (s : Int × Int), (∀ p ∈ l, 0 ≤ p) → 0 ≤ s.1 → l.foldl mmStep s = l.foldl extStep s
  | [], s, _, _ => rfl
  | p :: r, s, h, hs => by
    rw [List.foldl_cons, List.foldl_cons]
    have hp := h p (by simp)
    have e : mmStep s p = extStep s p := by
      unfold mmStep extStep
      refine Prod.ext ?_ ?_
      · dsimp only; split <;> omega
      · dsimp only; split <;> omega
    rw [e]
    refine mm_fold r _ (fun q hq => h q (by simp [hq])) ?_
    unfold extStep
    dsimp only
    split <;> omega

theorem mmOf_all {n : Nat} {ord cols : List Int} (ho : OkOrd n ord) (hc : OkCols n cols) : mmOf ord cols cols.length = extOf ord cols := by
  have hpos : ∀ p ∈ cols.map (fun c => posOf c ord), 0 ≤ p := by
    intro p hp
    rw [List.mem_map] at hp
    obtain ⟨c, hcm, rfl⟩ := hp
    obtain ⟨h0, h1⟩ := hc.2 c hcm
    exact (posOf_in (ho.all h0 h1)).1
  unfold mmOf extOf
  rw [List.take_length]
  cases hcs : cols with
  | nil => exact absurd hcs hc.1
  | cons c r =>
    rw [hcs] at hpos
    have hp := hpos (posOf c ord) (by simp)
    rw [List.map_cons, List.foldl_cons, List.foldl_cons]
    have e1 : mmStep (posOf ((c :: r).getD 0 0) ord, posOf ((c :: r).getD 0 0) ord) (posOf c ord) = (posOf c ord, posOf c ord) := by
      show (min (posOf c ord) (posOf c ord), max (posOf c ord) (posOf c ord)) = _
      rw [Int.min_self, Int.max_self]
    have e2 : extStep (-1, -1) (posOf c ord) = (posOf c ord, posOf c ord) := by
      unfold extStep
      refine Prod.ext ?_ ?_
      · dsimp only; rw [if_pos (by omega)]
      · dsimp only; rw [if_pos (by omega)]
    rw [e1, e2]
    exact mm_fold _ _ (fun q hq => hpos q (by rw [List.map_cons]; exact List.mem_cons_of_mem _ hq)) hp

/-- The extents of nets. -/
def extsOf (nets : List (Int × List Int)) (ord : List Int) : List (Int × Int) := nets.map fun n => extOf ord n.2

theorem extsOf_len (nets : List (Int × List Int)) (ord : List Int) : (extsOf nets ord).length = nets.length := by unfold extsOf; rw [List.length_map]

theorem extsOf_get (nets : List (Int × List Int)) (ord : List Int) {i : Nat} (hi : i < nets.length) : (extsOf nets ord).getD i (0, 0) = extOf ord (nets.getD i (0, [])).2 := by
  unfold extsOf
  rw [List.getD_eq_getElem?_getD, List.getD_eq_getElem?_getD, List.getElem?_map, List.getElem?_eq_getElem hi]; rfl

/-! The clique from the first position on. -/
def cBest (nets : List (Int × List Int)) (ord : List Int) (k : Nat) : List Int × Int := bestTo nets ord (max k 1)

theorem cBest_zero (nets : List (Int × List Int)) (ord : List Int) : cBest nets ord 0 = (coverTo nets ord 0 nets.length, 0) := by
  unfold cBest
  show bestTo nets ord (0 + 1) = _
  unfold bestTo
  split
  · rfl
  · rename_i h
    have h2 : (coverTo nets ord 0 nets.length).length = 0 := Nat.eq_zero_of_le_zero (Nat.not_lt.1 h)
    rw [List.length_eq_zero_iff.1 h2]; rfl

theorem cBest_succ (nets : List (Int × List Int)) (ord : List Int) (k : Nat) : cBest nets ord (k + 1) = if (cBest nets ord k).1.length < (coverTo nets ord k nets.length).length then (coverTo nets ord k nets.length, (k : Int)) else cBest nets ord k := by
  cases k with
  | zero =>
    rw [cBest_zero]
    show cBest nets ord 1 = _
    rw [if_neg (by simp), ← cBest_zero]; rfl
  | succ k =>
    have e1 : cBest nets ord (k + 1 + 1) = bestTo nets ord (k + 1 + 1) := by unfold cBest; rw [show max (k + 1 + 1) 1 = k + 1 + 1 by omega]
    have e2 : cBest nets ord (k + 1) = bestTo nets ord (k + 1) := by unfold cBest; rw [show max (k + 1) 1 = k + 1 by omega]
    rw [e1, e2]
    rfl

theorem cBest_all {nets : List (Int × List Int)} {ord : List Int} (h : 0 < ord.length) : cBest nets ord ord.length = bestTo nets ord ord.length := by unfold cBest; rw [show max ord.length 1 = ord.length by omega]
end Go.Proofs.YtggcnnpklkmeoaaGreatDoor
end

