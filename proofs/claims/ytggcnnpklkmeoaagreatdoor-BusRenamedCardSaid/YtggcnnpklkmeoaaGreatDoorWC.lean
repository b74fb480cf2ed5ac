import Derived.Test.YtggcnnpklkmeoaaGreatDoorWB
section
namespace Go.Proofs.YtggcnnpklkmeoaaGreatDoor
open Go.RowKit Go

def colsFrom (cols : Int) (l : List Int) (k : Nat) : Nat → Int
  | 0 => 0
  | n + 1 => if l.getD k 0 < 0 ∨ cols ≤ l.getD k 0 then 10 else if 0 < k ∧ l.getD k 0 ≤ l.getD (k - 1) 0 then 11 else colsFrom cols l (k + 1) n

/-- The error of a net behind others. -/
def netErr (cols : Int) (before : List (Int × List Int)) (n : Int × List Int) : Int :=
  if n.1 < 0 ∨ 100 ≤ n.1 then 3 else if n.1 ∈ before.map (·.1) then 9 else if n.2 = [] then 12 else colsFrom cols n.2 0 n.2.length

def netsFrom (cols : Int) (xs : List (Int × List Int)) (k : Nat) : Nat → Int
  | 0 => 0
  | n + 1 => if netErr cols (xs.take k) (xs.getD k (0, [])) = 0 then netsFrom cols xs (k + 1) n else netErr cols (xs.take k) (xs.getD k (0, []))

/-- The error of nets. -/
def netsOf (cols : Int) (xs : List (Int × List Int)) : Int := if cols < 1 ∨ 97 < cols then 3 else if 64 < xs.length then 5 else netsFrom cols xs 0 xs.length

theorem NetsV.drewN {w : World} {p : Option Addr} {xs : List (Int × List Int)} (h : NetsV w p xs) (n : Nat) : NetsV (w.drewN n) p xs := h.below (dn_below w n)

theorem shafts_succ {xs : List (Int × List Int)} {k : Nat} {x : Int} (h : k < xs.length) (h1 : x ∉ (xs.take k).map (·.1)) (h2 : ¬ (xs.getD k (0, [])).1 = x) : x ∉ (xs.take (k + 1)).map (·.1) := by
  rw [nets_take h, List.map_append, List.mem_append]
  rintro (h3 | h3)
  · exact h1 h3
  · simp only [List.map_cons, List.map_nil, List.mem_singleton] at h3
    exact h2 h3.symm

theorem shafts_mem {xs : List (Int × List Int)} {k i : Nat} {x : Int} (h : k < xs.length) (hk : k < i) (h2 : (xs.getD k (0, [])).1 = x) : x ∈ (xs.take i).map (·.1) := by
  rw [List.mem_map]
  refine ⟨xs.getD k (0, []), ?_, h2⟩
  rw [List.getD_eq_getElem?_getD, List.getElem?_eq_getElem h, Option.getD_some]
  rw [List.mem_take_iff_getElem]
  exact ⟨k, by omega, rfl⟩

set_option maxHeartbeats 4000000 in
set_option maxRecDepth 100000 in
/-- CheckNets of the reference of chapter 7. -/
theorem bCheckNets_any (p : Option Addr) (ca : Nat) (xs : List (Int × List Int)) (cols : Int) (w : World) (hx : NetsV w p xs) :
    Calls Tryz.prog 14 #[.slice p xs.length ca, .int .i64 cols] w fun e w' => e = .returned (.int .i64 (netsOf cols xs)) ∧ Below w.heap.size w w' := by
  have hm := hx.1
  by_cases hA : cols < 1
  · have hr : netsOf cols xs = 3 := by unfold netsOf; rw [if_pos (.inl hA)]
    rw [hr]
    clear hr hx
    go_enter Tryz.func14, Tryz.ntmps14
    go_wp2
    go_ret
    exact ⟨rfl, Below.refl _ _⟩
  by_cases hB : 97 < cols
  · have hr : netsOf cols xs = 3 := by unfold netsOf; rw [if_pos (.inr hB)]
    rw [hr]
    clear hr hx
    go_enter Tryz.func14, Tryz.ntmps14
    go_wp2
    go_ret
    exact ⟨rfl, Below.refl _ _⟩
  by_cases hC : 64 < xs.length
  · have hr : netsOf cols xs = 5 := by unfold netsOf; rw [if_neg (by omega), if_pos hC]
    rw [hr]
    clear hr hx
    go_enter Tryz.func14, Tryz.ntmps14
    go_wp2
    go_ret
    exact ⟨rfl, Below.refl _ _⟩
  have hr : netsOf cols xs = netsFrom cols xs 0 (xs.length - 0) := by unfold netsOf; rw [if_neg (by omega), if_neg hC]; rfl
  generalize netsOf cols xs = res at *
  have HR := Lib.hid hr
  clear hr
  go_enter Tryz.func14, Tryz.ntmps14
  go_wp2
  go_loopw [5] (fun ii wr => ∃ (i : Nat), i ≤ xs.length ∧ ii = .int .i64 i ∧ Hid (res = netsFrom cols xs i (xs.length - i)) ∧ Below w.heap.size w wr) (fun ii _ => xs.length - (intOf ii).toNat)
  case atStart => exact ⟨0, Nat.zero_le _, rfl, HR, Below.refl _ _⟩
  case round =>
    obtain ⟨i, hi, rfl, hrel, hb⟩ := hrel
    by_cases h0 : i < xs.length
    · have hxr := hx.below hb
      obtain ⟨g, o, rfl, hg, hc1, q, c, hc2, hq⟩ := hxr.at (i := i) h0
      have hs : res = if netErr cols (xs.take i) (xs.getD i (0, [])) = 0 then netsFrom cols xs (i + 1) (xs.length - (i + 1)) else netErr cols (xs.take i) (xs.getD i (0, [])) := by
        rw [hrel.out, show xs.length - i = (xs.length - (i + 1)) + 1 by omega]; rfl
      generalize xs.getD i (0, []) = n at *
      obtain ⟨sh, cl⟩ := n
      simp only at hc1 hc2 hq
      have HS := Lib.hid hs
      have HB := Lib.hid hb
      have HXR := Lib.hid hxr
      have HQ := Lib.hid hq
      clear hs hb hx hxr hq hrel
      by_cases h1 : sh < 0
      · have hz : res = 3 := by
          have e : netErr cols (xs.take i) (sh, cl) = 3 := by unfold netErr; rw [if_pos (.inl h1)]
          rw [HS.out, e]; rfl
        have HZ := Lib.hid hz
        clear hz
        go_wp2
        go_ret
        exact ⟨iret HZ.out.symm, HB.out.alloc HB.out.size _⟩
      by_cases h2 : 100 ≤ sh
      · have hz : res = 3 := by
          have e : netErr cols (xs.take i) (sh, cl) = 3 := by unfold netErr; rw [if_pos (.inr h2)]
          rw [HS.out, e]; rfl
        have HZ := Lib.hid hz
        clear hz
        go_wp2
        go_ret
        exact ⟨iret HZ.out.symm, HB.out.alloc HB.out.size _⟩
      go_wp2
      have G0 : Below wr.heap.size wr (wr.alloc (.cells #[.int .i64 sh, .slice q cl.length c] 39)) := (Below.refl _ _).alloc (Nat.le_refl _) _
      have G1 : (wr.alloc (.cells #[.int .i64 sh, .slice q cl.length c] 39)).cell? ⟨wr.heap.size, 0, none⟩ = some (.int .i64 sh) := by go_simp
      have G2 : (wr.alloc (.cells #[.int .i64 sh, .slice q cl.length c] 39)).cell? ⟨wr.heap.size, 1, none⟩ = some (.slice q cl.length c) := by go_simp
      have G3 : wr.heap.size < (wr.alloc (.cells #[.int .i64 sh, .slice q cl.length c] 39)).heap.size := by simp
      generalize wr.alloc (.cells #[.int .i64 sh, .slice q cl.length c] 39) = W1 at *
      have hxs := HXR.out.below G0
      have HQ1 := Lib.hid (HQ.out.below G0)
      have HB1 := Lib.hid (HB.out.trans (G0.mono HB.out.size))
      have HX1 := Lib.hid hxs
      generalize wr.heap.size = S at *
      clear G0 hxs hc1 hc2
      go_loopw [7] (fun ji wj => ∃ (k : Nat), k ≤ i ∧ ji = .int .i64 k ∧ Hid (sh ∉ (xs.take k).map (·.1)) ∧ ∃ nd, wj = W1.drewN nd) (fun ji _ => i - (intOf ji).toNat)
      case atStart => exact ⟨0, Nat.zero_le _, rfl, Lib.hid (by simp), 0, rfl⟩
      case round =>
        obtain ⟨k, hk, rfl, hrel2, nd, rfl⟩ := hrel
        by_cases h3 : k < i
        · obtain ⟨g2, o2, hgo, hg2, hd1, q3, c3, hd2, hq3⟩ := HX1.out.at (i := k) (by omega)
          injection hgo with hgo; injection hgo with e1 e2 e3
          subst e1; subst e2
          have hyes : (xs.getD k (0, [])).1 = sh → sh ∈ (xs.take i).map (·.1) := shafts_mem (by omega) h3
          have hno : ¬ (xs.getD k (0, [])).1 = sh → sh ∉ (xs.take (k + 1)).map (·.1) := shafts_succ (by omega) hrel2.out
          have HY := Lib.hid hyes
          have HN := Lib.hid hno
          generalize (xs.getD k (0, [])).1 = sk at *
          clear hyes hno hd2 hq3
          by_cases h4 : sk = sh
          · have hz : res = 9 := by
              have e : netErr cols (xs.take i) (sh, cl) = 9 := by unfold netErr; rw [if_neg (by simp only; omega), if_pos (HY.out h4)]
              rw [HS.out, e]; rfl
            have HZ := Lib.hid hz
            have h4' : (sk == sh) = true := by simp [h4]
            clear hz h4
            go_wp2
            go_quiet (fail)
            go_wp2
            go_ret
            exact ⟨iret HZ.out.symm, by first | exact below_drewN HB1.out _ | exact below_drewN (below_drewN HB1.out _) _⟩
          · have h4' : (sk == sh) = false := by simp [h4]
            have HM := Lib.hid (HN.out h4)
            clear h4
            go_wp2
            go_quiet (fail)
            go_wp2
            go_roundw
            case rel => exact ⟨k + 1, by omega, by go_num, HM, by first | exact ⟨_, rfl⟩ | exact ⟨nd + 1, rfl⟩⟩
            case measure => simp [intOf]; omega
        · obtain rfl : k = i := by omega
          by_cases h5 : cl = []
          · subst h5
            have hz : res = 12 := by
              have e : netErr cols (xs.take k) (sh, []) = 12 := by unfold netErr; rw [if_neg (by simp only; omega), if_neg hrel2.out, if_pos rfl]
              rw [HS.out, e]; rfl
            have HZ := Lib.hid hz
            clear hz
            go_wp2
            go_ret
            exact ⟨iret HZ.out.symm, below_drewN HB1.out _⟩
          · have he : netErr cols (xs.take k) (sh, cl) = colsFrom cols cl 0 (cl.length - 0) := by unfold netErr; rw [if_neg (by simp only; omega), if_neg hrel2.out, if_neg h5]; rfl
            rw [he] at HS
            have hpos : 0 < cl.length := List.length_pos_iff.2 h5
            have hne : ((cl.length : Int) == 0) = false := by rw [beq_eq_false_iff_ne]; omega
            have hcm := HQ1.out.1
            generalize hez : colsFrom cols cl 0 (cl.length - 0) = er at HS
            have HE := Lib.hid hez.symm
            clear he h5 hez
            go_wp2
            go_loopw [8] (fun ji wj => ∃ (m : Nat), m ≤ cl.length ∧ ji = .int .i64 m ∧ Hid (er = colsFrom cols cl m (cl.length - m)) ∧ ∃ nd, wj = W1.drewN nd) (fun ji _ => cl.length - (intOf ji).toNat)
            case atStart => exact ⟨0, Nat.zero_le _, rfl, HE, nd, rfl⟩
            case round =>
              obtain ⟨m, hmm, rfl, hrel3, nd2, rfl⟩ := hrel
              by_cases h6 : m < cl.length
              · obtain ⟨gq, oq, rfl, hgq, hcq⟩ := HQ1.out.at (i := m) h6
                have hs2 : er = if cl.getD m 0 < 0 ∨ cols ≤ cl.getD m 0 then 10 else if 0 < m ∧ cl.getD m 0 ≤ cl.getD (m - 1) 0 then 11 else colsFrom cols cl (m + 1) (cl.length - (m + 1)) := by
                  rw [hrel3.out, show cl.length - m = (cl.length - (m + 1)) + 1 by omega]; rfl
                generalize cl.getD m 0 = y at *
                have HS2 := Lib.hid hs2
                clear hs2
                by_cases h7 : y < 0
                · have e10 : er = 10 := by rw [HS2.out, if_pos (.inl h7)]
                  have hz : res = 10 := by rw [HS.out, e10]; rfl
                  have HZ := Lib.hid hz
                  clear hz e10
                  go_wp2
                  go_ret
                  exact ⟨iret HZ.out.symm, below_drewN HB1.out _⟩
                by_cases h8 : cols ≤ y
                · have e10 : er = 10 := by rw [HS2.out, if_pos (.inr h8)]
                  have hz : res = 10 := by rw [HS.out, e10]; rfl
                  have HZ := Lib.hid hz
                  clear hz e10
                  go_wp2
                  go_ret
                  exact ⟨iret HZ.out.symm, below_drewN HB1.out _⟩
                by_cases h9 : m = 0
                · subst h9
                  simp only [Nat.add_zero] at hcq
                  have hz : er = colsFrom cols cl (0 + 1) (cl.length - (0 + 1)) := by rw [HS2.out, if_neg (by omega), if_neg (by omega)]
                  have HZ := Lib.hid hz
                  clear hz
                  go_wp2
                  go_quiet (fail)
                  go_wp2
                  go_roundw
                  case rel => exact ⟨1, by omega, by go_num, HZ, by first | exact ⟨_, rfl⟩ | exact ⟨nd2 + 1, rfl⟩⟩
                  case measure => simp [intOf]; omega
                · obtain ⟨j, rfl⟩ : ∃ j, m = j + 1 := ⟨m - 1, by omega⟩
                  obtain ⟨gr, or_, hqq, hgr, hcr⟩ := HQ1.out.at (i := j) (by omega)
                  injection hqq with hqq; injection hqq with e1 e2 e3
                  subst e1; subst e2
                  have hsub : cl.getD (j + 1 - 1) 0 = cl.getD j 0 := by rw [Nat.add_sub_cancel]
                  rw [hsub] at HS2
                  generalize cl.getD j 0 = yj at *
                  have hw1 : IntKind.i64.wrap (((j + 1 : Nat) : Int) - 1) = ((j + 1 : Nat) : Int) - 1 := IntWalk.i64_in _ (by omega)
                  have hw2 : 0 ≤ ((j + 1 : Nat) : Int) - 1 := by omega
                  have hw3 : (((j + 1 : Nat) : Int) - 1).toNat = j := by omega
                  clear hsub h9
                  by_cases h10 : y ≤ yj
                  · have e11 : er = 11 := by rw [HS2.out, if_neg (by omega), if_pos ⟨by omega, h10⟩]
                    have hz : res = 11 := by rw [HS.out, e11]; rfl
                    have HZ := Lib.hid hz
                    clear hz e11
                    go_wp2
                    go_quiet (fail)
                    go_wp2
                    go_ret
                    exact ⟨iret HZ.out.symm, by first | exact below_drewN HB1.out _ | exact below_drewN (below_drewN HB1.out _) _⟩
                  · have hz : er = colsFrom cols cl (j + 1 + 1) (cl.length - (j + 1 + 1)) := by rw [HS2.out, if_neg (by omega), if_neg (by omega)]
                    have HZ := Lib.hid hz
                    clear hz
                    go_wp2
                    go_quiet (fail)
                    go_wp2
                    go_roundw
                    case rel => exact ⟨j + 1 + 1, by omega, by go_num, HZ, by first | exact ⟨_, rfl⟩ | exact ⟨nd2 + 1, rfl⟩⟩
                    case measure => simp [intOf]; omega
              · obtain rfl : m = cl.length := by omega
                have hz : er = 0 := by rw [hrel3.out, Nat.sub_self]; rfl
                have hz2 : res = netsFrom cols xs (k + 1) (xs.length - (k + 1)) := by rw [HS.out, hz]; rfl
                have HZ := Lib.hid hz2
                clear hz hz2
                go_wp2
                go_roundw
                case rel => exact ⟨k + 1, by omega, by go_num, HZ, below_drewN HB1.out _⟩
                case measure => simp [intOf]; omega
    · obtain rfl : i = xs.length := by omega
      have hz : res = 0 := by rw [hrel.out, Nat.sub_self]; rfl
      have HZ := Lib.hid hz
      clear hz hx
      go_wp2
      go_ret
      exact ⟨iret HZ.out.symm, hb⟩
end Go.Proofs.YtggcnnpklkmeoaaGreatDoor
end

section
namespace Go.Proofs.YtggcnnpklkmeoaaGreatDoor
open Go.RowKit Go

/-- The different numbers among the first k of a list. -/
def dcnt (l : List Int) : Nat → Nat
  | 0 => 0
  | k + 1 => dcnt l k + if l.getD k 0 ∈ l.take k then 0 else 1

theorem dcnt_le (l : List Int) : ∀ k, dcnt l k ≤ k
  | 0 => Nat.le_refl _
  | k + 1 => by have := dcnt_le l k; unfold dcnt; split <;> omega

set_option maxHeartbeats 1600000 in
/-- count of the reference of chapter 7. -/
theorem bCount_any (p : Option Addr) (ca : Nat) (l : List Int) (w : World) (ho : IntV w p l) (hcap : l.length ≤ ca) :
    Calls Tryz.prog 50 #[.slice p l.length ca] w fun e w' => e = .returned (.int .i64 (dcnt l l.length)) ∧ ∃ m, w' = w.drewN m := by
  have hm := ho.1
  go_enter Tryz.func50, Tryz.ntmps50
  go_wp2
  go_loopw [3, 4] (fun ni ii wr => ∃ (k n : Nat), k ≤ l.length ∧ ii = .int .i64 k ∧ ni = .int .i64 n ∧ Hid (n = dcnt l k) ∧ ∃ nd, wr = w.drewN nd) (fun _ ii _ => l.length - (intOf ii).toNat)
  case atStart => exact ⟨0, 0, Nat.zero_le _, rfl, rfl, Lib.hid rfl, 0, rfl⟩
  case round =>
    obtain ⟨k, n, hk, rfl, rfl, hrel, nd, rfl⟩ := hrel
    by_cases h0 : k < l.length
    · obtain ⟨g, o, rfl, hg, hc⟩ := ho.at (i := k) h0
      have hlen : (l.take k).length = k := by rw [List.length_take]; omega
      have hin : ∀ x n, Calls Tryz.prog 45 #[.slice (some ⟨g, o, none⟩) k ca, .int .i64 x] (w.drewN (nd + n)) fun e w'' => e = .returned (.bool (decide (x ∈ l.take k))) ∧ ∃ m, w'' = w.drewN (nd + m) := by
        intro x n
        have := bIn_any (some ⟨g, o, none⟩) ca (l.take k) x (w.drewN (nd + n)) ((ho.take k).drewN _)
        rw [hlen] at this
        exact qsame this
      have hs : dcnt l (k + 1) = n + if l.getD k 0 ∈ l.take k then 0 else 1 := by rw [hrel.out]; rfl
      have hn : n ≤ k := by rw [hrel.out]; exact dcnt_le l k
      have HI := Lib.hid hin
      generalize l.getD k 0 = y at *
      have HS := Lib.hid hs
      clear hs hlen hin ho
      by_cases h3 : y ∈ l.take k
      · have hz : dcnt l (k + 1) = n := by rw [HS.out, if_pos h3]; rfl
        have HZ := Lib.hid hz
        have hd3 : decide (y ∈ l.take k) = true := decide_eq_true h3
        clear hz
        go_wp2
        go_quiet ((go_at_call 45; exact HI.out _ _))
        go_wp2
        go_roundw
        case rel => exact ⟨k + 1, n, by omega, by go_num, rfl, Lib.hid HZ.out.symm, by first | exact ⟨_, rfl⟩ | exact ⟨nd + 1, rfl⟩⟩
        case measure => simp [intOf]; omega
      · have hz : dcnt l (k + 1) = n + 1 := by rw [HS.out, if_neg h3]
        have HZ := Lib.hid hz
        have hd3 : decide (y ∈ l.take k) = false := decide_eq_false h3
        clear hz
        go_wp2
        go_quiet ((go_at_call 45; exact HI.out _ _))
        go_wp2
        go_roundw
        case rel => exact ⟨k + 1, n + 1, by omega, by go_num, by go_num, Lib.hid HZ.out.symm, by first | exact ⟨_, rfl⟩ | exact ⟨nd + 1, rfl⟩⟩
        case measure => simp [intOf]; omega
    · obtain rfl : k = l.length := by omega
      have HZ := Lib.hid hrel.out
      clear ho
      go_wp2
      go_ret
      exact ⟨iret (by rw [HZ.out]), nd, rfl⟩

/-- A layout by value: its order, its tracks. -/
def LayV (w : World) (v : Value) (x : List Int × List Int) : Prop := ∃ p c q d, v = .agg #[.slice p x.1.length c, .slice q x.2.length d] ∧ IntV w p x.1 ∧ IntV w q x.2 ∧ x.1.length ≤ c ∧ x.2.length ≤ d

theorem LayV.below {w w' : World} {v : Value} {x : List Int × List Int} (h : LayV w v x) (hb : Below w.heap.size w w') : LayV w' v x := by
  obtain ⟨p, c, q, d, h1, h2, h3, h4, h5⟩ := h
  exact ⟨p, c, q, d, h1, h2.below hb, h3.below hb, h4, h5⟩

set_option maxHeartbeats 800000 in
/-- Width of the reference of chapter 7. -/
theorem bWidth_any (v : Value) (x : List Int × List Int) (w : World) (hv : LayV w v x) :
    Calls Tryz.prog 35 #[v] w fun e w' => e = .returned (.int .i64 (dcnt x.2 x.2.length)) ∧ Below w.heap.size w w' := by
  obtain ⟨p, c, q, d, rfl, h1, h2, h4, h5⟩ := hv
  obtain ⟨ord, tr⟩ := x
  simp only at h1 h2 h4 h5 ⊢
  have hb0 : ∀ o, Below w.heap.size w (w.alloc o) := fun o => (Below.refl _ _).alloc (Nat.le_refl _) _
  have HC := Lib.hid (fun o => bCount_any q d tr (w.alloc o) (h2.below (hb0 o)) h5)
  have HB := Lib.hid hb0
  clear h1 h2 h4 h5 hb0
  go_enter Tryz.func35, Tryz.ntmps35
  go_wp2_with (go_at_call 50; refine (HC.out _).mono ?_; rintro e w1 ⟨rfl, m, rfl⟩)
  go_ret
  exact ⟨rfl, below_drewN (HB.out _) _⟩

/-- How many of the first k nets on a track cover a position. -/
def overN (nets : List (Int × List Int)) (ord tr : List Int) (track p : Int) : Nat → Nat
  | 0 => 0
  | k + 1 => overN nets ord tr track p k + if tr.getD k 0 = track ∧ covB ord (nets.getD k (0, [])).2 p = true then 1 else 0

theorem overN_le (nets : List (Int × List Int)) (ord tr : List Int) (track p : Int) : ∀ k, overN nets ord tr track p k ≤ k
  | 0 => Nat.le_refl _
  | k + 1 => by have := overN_le nets ord tr track p k; unfold overN; split <;> omega

set_option maxHeartbeats 1600000 in
/-- over of the reference of chapter 7. -/
theorem bOver_any (p q r : Option Addr) (ca cb cc : Nat) (nets : List (Int × List Int)) (ord tr : List Int) (track at_ : Int) (w : World) (hx : NetsV w p nets) (ho : IntV w q ord) (ht : IntV w r tr) (hl : nets.length ≤ tr.length) :
    Calls Tryz.prog 80 #[.slice p nets.length ca, .slice q ord.length cb, .slice r tr.length cc, .int .i64 track, .int .i64 at_] w fun e w' => e = .returned (.int .i64 (overN nets ord tr track at_ nets.length)) ∧ Below w.heap.size w w' := by
  have hm := hx.1
  have hm2 := ht.1
  have HC := Lib.hid (fun W (v : Value) (x : Int × List Int) (h : Below w.heap.size w W) (hv : NetV W v x) => bCovers_any v x q cb ord at_ W hv (ho.below h))
  clear ho
  go_enter Tryz.func80, Tryz.ntmps80
  go_wp2
  go_loopw [11, 12] (fun ni ii wr => ∃ (k n : Nat), k ≤ nets.length ∧ ii = .int .i64 k ∧ ni = .int .i64 n ∧ Hid (n = overN nets ord tr track at_ k) ∧ Below w.heap.size w wr) (fun _ ii _ => nets.length - (intOf ii).toNat)
  case atStart => exact ⟨0, 0, Nat.zero_le _, rfl, rfl, Lib.hid rfl, Below.refl _ _⟩
  case round =>
    obtain ⟨k, n, hk, rfl, rfl, hrel, hb⟩ := hrel
    by_cases h0 : k < nets.length
    · obtain ⟨g, o, rfl, hg, hc1, q2, c2, hc2, hq⟩ := (hx.below hb).at (i := k) h0
      obtain ⟨gt, ot, rfl, hgt, hct⟩ := (ht.below hb).at (i := k) (by omega)
      have hs : overN nets ord tr track at_ (k + 1) = n + if tr.getD k 0 = track ∧ covB ord (nets.getD k (0, [])).2 at_ = true then 1 else 0 := by rw [hrel.out]; rfl
      have hn : n ≤ k := by rw [hrel.out]; exact overN_le _ _ _ _ _ k
      generalize nets.getD k (0, []) = net at *
      obtain ⟨sh, cols⟩ := net
      generalize tr.getD k 0 = t at *
      simp only at hc1 hc2 hq hs
      have K := Lib.hid (HC.out wr (.agg #[.int .i64 sh, .slice q2 cols.length c2]) (sh, cols) hb ⟨q2, c2, rfl, hq⟩)
      simp only at K
      have HS := Lib.hid hs
      have HB := Lib.hid hb
      clear hs hb hq hx ht
      by_cases h1 : t = track
      · have h1' : (t == track) = true := by simp [h1]
        cases h2 : covB ord cols at_ with
        | true =>
          have hz : n + 1 = overN nets ord tr track at_ (k + 1) := by rw [HS.out, if_pos ⟨h1, h2⟩]
          have HZ := Lib.hid hz
          clear hz h1
          go_wp2_with (go_at_call 51; refine K.out.mono ?_; rintro e w1 ⟨rfl, hb5⟩)
          go_roundw
          case rel => exact ⟨k + 1, n + 1, by omega, by go_num, by go_num, HZ, HB.out.trans (hb5.mono HB.out.size)⟩
          case measure => simp [intOf]; omega
        | false =>
          have hz : n = overN nets ord tr track at_ (k + 1) := by rw [HS.out, if_neg (by rw [h2]; simp)]; rfl
          have HZ := Lib.hid hz
          clear hz h1
          go_wp2_with (go_at_call 51; refine K.out.mono ?_; rintro e w1 ⟨rfl, hb5⟩)
          go_roundw
          case rel => exact ⟨k + 1, n, by omega, by go_num, rfl, HZ, HB.out.trans (hb5.mono HB.out.size)⟩
          case measure => simp [intOf]; omega
      · have h1' : (t == track) = false := by simp [h1]
        have hz : n = overN nets ord tr track at_ (k + 1) := by rw [HS.out, if_neg (fun h => h1 h.1)]; rfl
        have HZ := Lib.hid hz
        clear hz h1
        go_wp2
        go_roundw
        case rel => exact ⟨k + 1, n, by omega, by go_num, rfl, HZ, HB.out⟩
        case measure => simp [intOf]; omega
    · obtain rfl : k = nets.length := by omega
      have HZ := Lib.hid hrel.out
      clear hx ht
      go_wp2
      go_ret
      exact ⟨iret (by rw [HZ.out]), hb⟩
end Go.Proofs.YtggcnnpklkmeoaaGreatDoor
end

