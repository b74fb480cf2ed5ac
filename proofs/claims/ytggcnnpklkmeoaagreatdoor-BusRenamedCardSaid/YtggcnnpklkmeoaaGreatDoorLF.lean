import Derived.Test.YtggcnnpklkmeoaaGreatDoorLE
import Derived.Test.YtggcnnpklkmeoaaGreatDoorWA
import Derived.Test.YtggcnnpklkmeoaaGreatDoorUC
import Derived.Test.YtggcnnpklkmeoaaGreatDoorUG
section
namespace Go.Proofs.YtggcnnpklkmeoaaGreatDoor
open Go.RowKit Go

/-! A row of nets of one's own, as BusRenamed makes it: with the rows of their columns. -/

theorem own_other {w w' : World} {b b' : Nat} {e e' : TypeId} {s s' n n' : Nat} {v v' : Value} {xs xs' : List Value} (h : w.ownsRow b e s v n xs) (k : w.ownsRow b' e' s' v' n' xs') (hne : e ≠ e') (hg : w.grownBy w' v'.ownBlock) : w'.ownsRow b e s v n xs := by
  refine ⟨h.1, ?_⟩
  rcases h.2 with h2 | ⟨g, cap, cur, rfl, h3, h4, h5⟩
  · exact .inl h2
  · refine .inr ⟨g, cap, cur, rfl, h3, ?_, h5⟩
    rw [hg.block g (Array.getElem?_eq_some_iff.1 h4).1 ?_]
    · exact h4
    · intro e1
      rcases k.2 with ⟨rfl, _⟩ | ⟨g', cap', cur', rfl, _, k4, _⟩
      · simp [Value.ownBlock] at e1
      · simp only [Value.ownBlock, Option.some.injEq] at e1
        subst e1
        rw [h4] at k4
        cases k4
        exact hne rfl

def netCells : List (Int × List Int) → List Value → List Value
  | o :: os, u :: us => .int .i64 o.1 :: u :: netCells os us
  | _, _ => []

theorem netCells_len : ∀ {os : List (Int × List Int)} {us : List Value}, us.length = os.length → (netCells os us).length = os.length * 2
  | [], [], _ => rfl
  | o :: os, u :: us, h => by
    unfold netCells
    rw [List.length_cons, List.length_cons, netCells_len (by simpa using h), List.length_cons]
    omega

theorem netCells_at : ∀ {os : List (Int × List Int)} {us : List Value} {i : Nat}, us.length = os.length → i < os.length →
    (netCells os us)[i * 2]? = some (.int .i64 (os.getD i (0, [])).1) ∧ (netCells os us)[i * 2 + 1]? = some (us.getD i (.slice none 0 0))
  | o :: os, u :: us, 0, _, _ => ⟨rfl, rfl⟩
  | o :: os, u :: us, i + 1, h, hi => by
    have k := netCells_at (os := os) (us := us) (i := i) (by simpa using h) (by simpa using hi)
    unfold netCells
    rw [show (i + 1) * 2 = i * 2 + 1 + 1 by omega, List.getElem?_cons_succ, List.getElem?_cons_succ, List.getElem?_cons_succ, List.getElem?_cons_succ]
    simpa using k

theorem netCells_snoc : ∀ {os : List (Int × List Int)} {us : List Value} (o : Int × List Int) (u : Value), us.length = os.length → netCells (os ++ [o]) (us ++ [u]) = netCells os us ++ [.int .i64 o.1, u]
  | [], [], _, _, _ => rfl
  | a :: os, b :: us, o, u, h => by
    show netCells (a :: (os ++ [o])) (b :: (us ++ [u])) = _
    unfold netCells
    rw [netCells_snoc o u (by simpa using h)]
    rfl

/-- A row of nets that the call owns, with the rows of their columns. -/
def ONets (w : World) (base : Nat) (v : Value) (os : List (Int × List Int)) : Prop :=
  ∃ us : List Value, us.length = os.length ∧ w.ownsRow base 39 2 v os.length (netCells os us) ∧
    ∀ i, i < os.length → w.ownsRow base 3 1 (us.getD i (.slice none 0 0)) (os.getD i (0, [])).2.length ((os.getD i (0, [])).2.map (Value.int .i64))

theorem ONets.below {w w' : World} {base : Nat} {v : Value} {os : List (Int × List Int)} (h : ONets w base v os) (hb : Below w.heap.size w w') : ONets w' base v os := by
  obtain ⟨us, h1, h2, h3⟩ := h
  exact ⟨us, h1, rowBelow h2 hb, fun i hi => rowBelow (h3 i hi) hb⟩

theorem ONets.nil (w : World) (base : Nat) : ONets w base (.slice none 0 0) [] := ⟨[], rfl, World.ownsRow_nil w base _ _, fun i hi => absurd hi (Nat.not_lt_zero _)⟩

theorem own_one {w : World} {b n s : Nat} {e : TypeId} {v : Value} {xs : List Value} (h : w.ownsRow b e s v n xs) : v.oneCell' = true := by
  rcases h.2 with ⟨rfl, _⟩ | ⟨g, cap, cur, rfl, _⟩ <;> rfl

theorem ONets.netsV {w : World} {base : Nat} {v : Value} {os : List (Int × List Int)} (h : ONets w base v os) (hl : os.length ≤ 1000) (hl2 : ∀ i, i < os.length → (os.getD i (0, [])).2.length ≤ 1000) : ∃ p c, v = .slice p os.length c ∧ NetsV w p os := by
  obtain ⟨us, h1, h2, h3⟩ := h
  rcases h2.2 with ⟨rfl, h4⟩ | ⟨g, cap, cur, rfl, h4, h5, h6⟩
  · exact ⟨none, 0, by rw [h4], by omega, .inl (List.eq_nil_of_length_eq_zero h4)⟩
  · refine ⟨_, _, rfl, by omega, .inr ⟨g, 0, rfl, (Array.getElem?_eq_some_iff.1 h5).1, fun i hi => ?_⟩⟩
    have hc := netCells_at h1 hi
    have k1 := h2.cells (g := g) rfl _ _ hc.1
    have k2 := h2.cells (g := g) rfl _ _ hc.2
    obtain ⟨q, c, e, hiv, _⟩ := IntV.of_owns (h3 i hi) (by have := hl2 i hi; omega)
    have hadd : ∀ j, (⟨g, 0, none⟩ : Addr).add j = ⟨g, 0 + j, none⟩ := fun j => by simp [Addr.add]; exact fun h => h.symm
    rw [e, hadd, ← Nat.add_assoc] at k2
    rw [hadd] at k1
    exact ⟨k1, q, c, k2, hiv⟩

theorem netInfo : (Tryz.prog.info? 39).map (fun i => (i.zero, i.size, i.bytes)) = some (some (.agg #[.int .i64 0, .slice none 0 0]), 2, 32) := by kernel_rfl

/-- append of one net to such a row: as a law for the walk. -/
theorem wpList_append_net {w : World} {ops : Array Oper} {rest : List Oper} {o : Oper} {a : Act} {Q : Exit → Act → World → Prop} (hgd : o.guard = none) (s x : Operand)
    (ho : o.op = .call { callee := .builtin .append, args := #[s, x], argTypes := #[22, 22] })
    (base : Nat) (v : Value) (os : List (Int × List Int)) (sh : Int) (l : List Int) (u : Value) (hs : a.eval s = v) (hown : ONets w base v os) (hu : w.ownsRow base 3 1 u l.length (l.map (Value.int .i64)))
    (g c : Nat) (hx : a.eval x = .slice (some ⟨g, 0, none⟩) 1 c) (hc0 : w.cell? ⟨g, 0, none⟩ = some (.int .i64 sh)) (hc1 : w.cell? ⟨g, 1, none⟩ = some u) (hl : os.length ≤ 1000) (hbase : base ≤ w.heap.size)
    (h : ∀ v' w', ONets w' base v' (os ++ [(sh, l)]) → w.grownBy w' v.ownBlock → (∀ b, v.ownBlock = some b → base ≤ b ∧ b < w.heap.size) → wpList Tryz.prog ops Q rest (a.put o.dst v') w') : wpList Tryz.prog ops Q (o :: rest) a w := by
  obtain ⟨us, h1, h2, h3⟩ := hown
  obtain ⟨i0, hInfo, hz0, hz1, hz2⟩ := info_parts netInfo
  refine wpList_append_own w hgd s x 22 ho base 39 i0 (.agg #[.int .i64 0, .slice none 0 0]) 2 32 Tryz.underlying22 hInfo hz0 hz1 hz2 rfl (by decide) v os.length _ hs h2 ⟨g, 0, none⟩ 1 c [.int .i64 sh, u] hx rfl ?_ ?_ (by unfold maxLen; omega) (by omega) hbase ?_
  · intro j y hj
    match j, hj with
    | 0, hj => simp at hj; subst hj; simpa [Addr.add] using hc0
    | 1, hj => simp at hj; subst hj; simpa [Addr.add] using hc1
  · intro y hy
    simp at hy
    rcases hy with rfl | rfl
    · rfl
    · exact own_one hu
  · intro v' w' k1 k2 _
    refine h v' w' ⟨us ++ [u], by simp [h1], ?_, ?_⟩ k2 ?_
    · rw [netCells_snoc (sh, l) u h1, List.length_append]; exact k1
    · intro i hi
      rw [List.length_append, List.length_cons, List.length_nil] at hi
      by_cases hi2 : i < os.length
      · rw [List.getD_eq_getElem?_getD (l := os ++ _), List.getElem?_append_left hi2, ← List.getD_eq_getElem?_getD, List.getD_eq_getElem?_getD (l := us ++ _), List.getElem?_append_left (by omega), ← List.getD_eq_getElem?_getD]
        exact own_other (h3 i hi2) h2 (by decide) k2
      · obtain rfl : i = os.length := by omega
        rw [List.getD_eq_getElem?_getD (l := os ++ _), List.getElem?_concat_length, List.getD_eq_getElem?_getD (l := us ++ _), ← h1, List.getElem?_concat_length]
        exact own_other hu h2 (by decide) k2
    · intro b hb
      exact h2.lt b hb
end Go.Proofs.YtggcnnpklkmeoaaGreatDoor
end

section
namespace Go.Proofs.YtggcnnpklkmeoaaGreatDoor
open Go.RowKit Go

/-- CheckOrder of the reference, where the order may be read if its length fits. -/
theorem bOrder_light (q : Option Addr) (cb : Nat) (ord : List Int) (cols : Int) (w : World) (h : (ord.length : Int) = cols → IntV w q ord) (hcap : ord.length ≤ cb) :
    Calls Tryz.prog 15 #[.int .i64 cols, .slice q ord.length cb] w fun e w' => e = .returned (.int .i64 (orderOf cols ord)) ∧ Below w.heap.size w w' := by
  by_cases c : (ord.length : Int) = cols
  · exact bCheckOrder_any q cb ord cols w (h c) hcap
  · have e : orderOf cols ord = 2 := by unfold orderOf; rw [if_neg c]
    rw [e]
    exact bCheckOrder_len q cb ord.length cols w c

set_option maxRecDepth 100000 in
set_option maxHeartbeats 6400000 in
/-- BusRenamed. -/
theorem lRenamed_any (p q r : Option Addr) (ca cb cc : Nat) (xs : List (Int × List Int)) (ord nm : List Int) (cols : Int) (w : World) (hs : NetsS w p xs) (hv : xs.length ≤ 70 → (∀ x ∈ xs, x.2.length ≤ 12) → NetsV w p xs)
    (ho : ord.length ≤ 100 → IntV w q ord) (ht : nm.length ≤ 100 → IntV w r nm) (hcap : ord.length ≤ cb) (hcap2 : nm.length ≤ cc) (_hml : ord.length ≤ maxLen) (_hml2 : nm.length ≤ maxLen) :
    Calls Tryz.prog 8 #[.slice p xs.length ca, .int .i64 cols, .agg #[.slice q ord.length cb, .slice r nm.length cc]] w fun e w' => e = .returned (.bool true) ∧ Below w.heap.size w w' := by
  go_enter Tryz.func8, Tryz.ntmps8
  go_upto_region 1 with (fail)
  have B0 : BoxAt (w.alloc (.cells #[.slice q ord.length cb, .slice r nm.length cc] 65)) w.heap.size 65 [.slice q ord.length cb, .slice r nm.length cc] := BoxAt.made _ _ _
  have G0 : Below w.heap.size w (w.alloc (.cells #[.slice q ord.length cb, .slice r nm.length cc] 65)) := (Below.refl _ _).alloc (Nat.le_refl _) _
  generalize w.alloc (.cells #[.slice q ord.length cb, .slice r nm.length cc] 65) = w0 at *
  have c0 := B0.cell 0
  have c1 := B0.cell 1
  simp only [List.getElem?_cons_zero, List.getElem?_cons_succ] at c0 c1
  go_quiet (fail)
  clear c0 c1 B0
  rename_i nq
  go_upto_region 2 with (fail)
  replace G0 : Below w.heap.size w (w0.drewN nq) := below_drewN G0 _
  generalize w0.drewN nq = w1 at *
  have HG := Lib.hid G0
  replace hs := hs.below G0
  replace hv : xs.length ≤ 70 → (∀ x ∈ xs, x.2.length ≤ 12) → NetsV w1 p xs := fun a b => (hv a b).below G0
  replace ho : ord.length ≤ 100 → IntV w1 q ord := fun a => (ho a).below G0
  replace ht : nm.length ≤ 100 → IntV w1 r nm := fun a => (ht a).below G0
  clear G0
  have hb : Below w1.heap.size w1 w1 := Below.refl _ _
  have KA := Lib.hid (awake_from (w := w1))
  have KL := Lib.hid (fun W (h : Below w1.heap.size w1 W) => below_ret h (lLight_any p ca xs cols W (hs.below h) (fun a b => (hv a b).below h)))
  cases hli : lightOf cols xs with
  | false =>
    rw [hli] at KL
    clear hs hv ho ht hli
    go_wp2_with (first | (go_at_call 9; (with_reducible refine (KA.out _ ?hb).mono ?_); (case hb => repeat' (first | assumption | exact Below.size (B := w1.heap.size) (by assumption) | refine Below.drew ?_ | refine Below.alloc ?_ ?_ _ | refine Below.setCell ?_ ?_ _ | refine below_drewN ?_ _)); rintro e wz ⟨rfl, hb⟩) | (go_at_call 10; (with_reducible refine (KL.out _ ?hb).mono ?_); (case hb => repeat' (first | assumption | exact Below.size (B := w1.heap.size) (by assumption) | refine Below.drew ?_ | refine Below.alloc ?_ ?_ _ | refine Below.setCell ?_ ?_ _ | refine below_drewN ?_ _)); rintro e wz ⟨rfl, hb⟩))
    go_ret
    exact ⟨rfl, HG.out.trans (Below.mono (by assumption) HG.out.size)⟩
  | true =>
    obtain ⟨l1, l2, l3⟩ := light_ok hli
    rw [hli] at KL
    have hx := hv l1 l2
    have KN := Lib.hid (fun W (h : Below w1.heap.size w1 W) => below_ret h (bCheckNets_any p ca xs cols W (hx.below h)))
    by_cases hne : netsOf cols xs = 0
    · have hbd := (netsOf_ok hne).1
      rw [hne] at KN
      have KO := Lib.hid (fun W (h : Below w1.heap.size w1 W) => below_ret h (bOrder_light q cb ord cols W (fun e => (ho (by omega)).below h) hcap))
      have KM := Lib.hid (fun W (h : Below w1.heap.size w1 W) => below_ret h (bOrder_light r cc nm cols W (fun e => (ht (by omega)).below h) hcap2))
      by_cases hoe : orderOf cols ord = 0
      · rw [hoe] at KO
        by_cases hme : orderOf cols nm = 0
        · rw [hme] at KM
          obtain ⟨l4, l5⟩ := l3 hne
          have holn : (ord.length : Int) = cols := by
            by_cases c : (ord.length : Int) = cols
            · exact c
            · unfold orderOf at hoe; rw [if_neg c] at hoe; cases hoe
          have hmln : (nm.length : Int) = cols := by
            by_cases c : (nm.length : Int) = cols
            · exact c
            · unfold orderOf at hme; rw [if_neg c] at hme; cases hme
          have ho := ho (by omega)
          have ht := ht (by omega)
          have HX := Lib.hid hx
          have HO := Lib.hid ho
          have HT := Lib.hid ht
          have HS := Lib.hid l2
          obtain ⟨n, rfl⟩ : ∃ n : Nat, cols = (n : Int) := ⟨ord.length, holn.symm⟩
          have hmo := orderOf_ok hme
          have hoo := orderOf_ok hoe
          have hno := okNets_of hne hoe
          have HMo := Lib.hid hmo
          have HOo := Lib.hid hoo
          have HNo := Lib.hid hno
          have HNe := Lib.hid hne
          have HOe := Lib.hid hoe
          have HMe := Lib.hid hme
          have HOl := Lib.hid (show ord.length = n by omega)
          have HMl := Lib.hid (show nm.length = n by omega)
          have hn7 : n ≤ 7 := by omega
          clear hs hv ho ht hx hli l2 l3 hne hoe hme holn hmln hmo hoo hno _hml _hml2
          go_upto_region 4 with (first | (go_at_call 9; (with_reducible refine (KA.out _ ?hb).mono ?_); (case hb => repeat' (first | assumption | exact Below.size (B := w1.heap.size) (by assumption) | refine Below.drew ?_ | refine Below.alloc ?_ ?_ _ | refine Below.setCell ?_ ?_ _ | refine below_drewN ?_ _)); rintro e wz ⟨rfl, hb⟩) | (go_at_call 10; (with_reducible refine (KL.out _ ?hb).mono ?_); (case hb => repeat' (first | assumption | exact Below.size (B := w1.heap.size) (by assumption) | refine Below.drew ?_ | refine Below.alloc ?_ ?_ _ | refine Below.setCell ?_ ?_ _ | refine below_drewN ?_ _)); rintro e wz ⟨rfl, hb⟩) | (go_at_call 14; (with_reducible refine (KN.out _ ?hb).mono ?_); (case hb => repeat' (first | assumption | exact Below.size (B := w1.heap.size) (by assumption) | refine Below.drew ?_ | refine Below.alloc ?_ ?_ _ | refine Below.setCell ?_ ?_ _ | refine below_drewN ?_ _)); rintro e wz ⟨rfl, hb⟩) | (go_at_call 15; (with_reducible refine (KO.out _ ?hb).mono ?_); (case hb => repeat' (first | assumption | exact Below.size (B := w1.heap.size) (by assumption) | refine Below.drew ?_ | refine Below.alloc ?_ ?_ _ | refine Below.setCell ?_ ?_ _ | refine below_drewN ?_ _)); rintro e wz ⟨rfl, hb⟩) | (go_at_call 15; (with_reducible refine (KM.out _ ?hb).mono ?_); (case hb => repeat' (first | assumption | exact Below.size (B := w1.heap.size) (by assumption) | refine Below.drew ?_ | refine Below.alloc ?_ ?_ _ | refine Below.setCell ?_ ?_ _ | refine below_drewN ?_ _)); rintro e wz ⟨rfl, hb⟩))
          have HX2 := Lib.hid (HX.out.below hb)
          have HO2 := Lib.hid (HO.out.below hb)
          have HT2 := Lib.hid (HT.out.below hb)
          have HB2 := Lib.hid (HG.out.trans (Below.mono hb HG.out.size))
          clear KA KL KN KO KM HX HO HT HG
          clear hb
          go_wp2
          go_loopw [9, 10] (fun ov ii wr => ∃ (i : Nat) (v : Value), i ≤ xs.length ∧ ov = v ∧ ii = .int .i64 i ∧ ONets wr wz.heap.size v (othersOf nm n (xs.take i)) ∧ Below wz.heap.size wz wr) (fun _ ii _ => xs.length - (intOf ii).toNat)
          case atStart => exact ⟨0, _, Nat.zero_le _, rfl, rfl, ONets.nil _ _, Below.refl _ _⟩
          case round =>
            obtain ⟨i, v, hi, hvv, rfl, hown, hbr⟩ := hrel
            obtain ⟨wa, rfl⟩ : ∃ x, x = wr := ⟨wr, rfl⟩
            replace hvv := hvv.symm
            subst hvv
            by_cases h0 : i < xs.length
            · obtain ⟨gx, ox, rfl, hgx, hsh, qc, ccx, hcol, hiv⟩ := (HX2.out.below hbr).at h0
              have HOwn := Lib.hid hown
              have HBr := Lib.hid hbr
              have hos : othersOf nm n (xs.take (i + 1)) = othersOf nm n (xs.take i) ++ [((xs.getD i (0, [])).1, renC nm (xs.getD i (0, [])).2 n)] := by rw [nets_take h0]; unfold othersOf; rw [List.map_append]; rfl
              have hol : (othersOf nm n (xs.take i)).length = i := by unfold othersOf; rw [List.length_map, List.length_take]; omega
              have HOl2 := Lib.hid hol
              clear hol
              generalize (xs.getD i (0, [])).1 = sh at *
              clear hown hbr
              go_upto_region 9 with (fail)
              have B1 : BoxAt (wa.alloc (.cells #[.int .i64 sh, .slice none 0 0] 39)) wa.heap.size 39 [.int .i64 sh, .slice none 0 0] := BoxAt.made _ _ _
              have G1 : Below wa.heap.size wa (wa.alloc (.cells #[.int .i64 sh, .slice none 0 0] 39)) := (Below.refl _ _).alloc (Nat.le_refl _) _
              have G2 : wa.heap.size + 1 ≤ (wa.alloc (.cells #[.int .i64 sh, .slice none 0 0] 39)).heap.size := by simp
              generalize wa.alloc (.cells #[.int .i64 sh, .slice none 0 0] 39) = wb at *
              have hcr := (HNo.out.cols i h0).2
              have hl12 := HS.out _ (show xs.getD i (0, []) ∈ xs by rw [List.getD_eq_getElem?_getD, List.getElem?_eq_getElem h0]; exact List.getElem_mem h0)
              generalize hl : (xs.getD i (0, [])).2 = l at *
              have HL := Lib.hid hl
              have HOs := Lib.hid hos
              have HIV := Lib.hid hiv
              have HCol := Lib.hid hcol
              have HCr := Lib.hid hcr
              have HB1 := Lib.hid B1
              have HG1 := Lib.hid G1
              have HG2 := Lib.hid G2
              clear hl hiv hcol hcr B1 G1 G2 hsh hos
              go_wp2
              go_loopw [12] (fun ci w2 => ∃ (c : Nat) (u : Value), c ≤ n ∧ ci = .int .i64 c ∧ BoxAt w2 wa.heap.size 39 [.int .i64 sh, u] ∧ w2.ownsRow (wa.heap.size + 1) 3 1 u (renC nm l c).length ((renC nm l c).map (Value.int .i64)) ∧ Below wa.heap.size wa w2 ∧ wa.heap.size + 1 ≤ w2.heap.size) (fun ci _ => n - (intOf ci).toNat)
              case atStart => exact ⟨0, _, Nat.zero_le _, rfl, HB1.out, World.ownsRow_nil _ _ _ _, HG1.out, HG2.out⟩
              case round =>
                obtain ⟨c, u, hc, rfl, hbx, hou, hbw, hsw⟩ := hrel
                obtain ⟨wc, rfl⟩ : ∃ x, x = wr := ⟨wr, rfl⟩
                by_cases h1 : c < n
                · have hl1 := renC_le nm l c
                  have hcl : c * l.length ≤ 7 * 12 := Nat.mul_le_mul (by omega) hl12
                  have hcs : renC nm l (c + 1) = renC nm l c ++ renK nm l c l.length := rfl
                  have HCs := Lib.hid hcs
                  have HBx := Lib.hid hbx
                  have HOu := Lib.hid hou
                  have HBw := Lib.hid hbw
                  clear hcs hbx hou hbw
                  go_wp2
                  go_loopw [13] (fun ki w3 => ∃ (k : Nat) (u : Value), k ≤ l.length ∧ ki = .int .i64 k ∧ BoxAt w3 wa.heap.size 39 [.int .i64 sh, u] ∧ w3.ownsRow (wa.heap.size + 1) 3 1 u (renC nm l c ++ renK nm l c k).length ((renC nm l c ++ renK nm l c k).map (Value.int .i64)) ∧ Below wa.heap.size wa w3 ∧ wa.heap.size + 1 ≤ w3.heap.size) (fun ki _ => l.length - (intOf ki).toNat)
                  case atStart => exact ⟨0, _, Nat.zero_le _, rfl, HBx.out, by rw [show renK nm l c 0 = [] from rfl, List.append_nil]; exact HOu.out, HBw.out, hsw⟩
                  case round =>
                    clear HBx HOu HBw
                    obtain ⟨k, u, hk, rfl, hbx, hou, hbw, hsw⟩ := hrel
                    have hcol3 := (hbw.cell (p := ⟨gx, ox + i * 2 + 1, none⟩) hgx).trans HCol.out
                    by_cases h2 : k < l.length
                    · obtain ⟨gc, oc, rfl, hgc, hcc⟩ := (HIV.out.below hbw).at h2
                      have hcr := HCr.out _ (getD_mem_int h2)
                      have hks : renK nm l c (k + 1) = renK nm l c k ++ if nm.getD (l.getD k 0).toNat 0 = c then [(c : Int)] else [] := rfl
                      have hkl := renK_le nm l c k
                      generalize l.getD k 0 = col at *
                      obtain ⟨co, rfl⟩ : ∃ co : Nat, col = (co : Int) := ⟨col.toNat, by omega⟩
                      rw [show ((co : Int)).toNat = co by omega] at hks
                      obtain ⟨gn, on, rfl, hgn, hcn⟩ := (HT2.out.below (HBr.out.trans (hbw.mono HBr.out.size))).at (i := co) (by rw [HMl.out]; omega)
                      have hcon : co < nm.length := by rw [HMl.out]; omega
                      generalize nm.getD co 0 = nc at *
                      have hll : (renC nm l c ++ renK nm l c k).length ≤ 1000 := by rw [List.length_append]; omega
                      by_cases h3 : nc = c
                      · subst h3
                        rw [if_pos rfl] at hks
                        have hks2 : renC nm l c ++ renK nm l c (k + 1) = (renC nm l c ++ renK nm l c k) ++ [(c : Int)] := by rw [hks, List.append_assoc]
                        have HKs := Lib.hid hks2
                        have HHl := Lib.hid hll
                        clear hks hks2 hkl hl1 hcl
                        generalize hl2 : renC nm l c ++ renK nm l c (k + 1) = l2 at *
                        have HL2 := Lib.hid hl2
                        clear hl2
                        generalize renC nm l c ++ renK nm l c k = l1 at *
                        have HBx := Lib.hid hbx
                        have HOu := Lib.hid hou
                        have HBw := Lib.hid hbw
                        have b1 := hbx.cell 1
                        simp only [List.getElem?_cons_zero, List.getElem?_cons_succ] at b1
                        clear hbx hou hbw
                        go_wp2_with (at_builtin; refine wpList_append_ints rfl _ _ rfl (wa.heap.size + 1) u l1.length l1 [(c : Int)] rfl (HOu.out.alloc _) (some ⟨wr.heap.size, 0, none⟩) 1 1 rfl rfl (intV_one wr c) (by intro h; cases h) (by omega) (by simp; omega) ?_)
                        intro v' w4 hown' hgrow
                        have hlt := (HOu.out.alloc (.cells #[.int .i64 (c : Int)] 3)).lt
                        have hbx4 : BoxAt w4 wa.heap.size 39 [.int .i64 sh, u] := (HBx.out.alloc _).grown hgrow (by intro e; have := (hlt _ e.symm).1; omega)
                        have hbw4 : Below wa.heap.size wa w4 := (HBw.out.alloc HBw.out.size _).grown hgrow (by simp; omega) fun b hb => by have := (hlt b hb).1; omega
                        have hsz4 : wa.heap.size + 1 ≤ w4.heap.size := Nat.le_trans (by simp; omega) hgrow.size
                        have b4 := hbx4.cell 1
                        have f4 := hbx4.free 1
                        simp only [List.getElem?_cons_zero, List.getElem?_cons_succ] at b4
                        obtain ⟨pu, cu, rfl, hcu⟩ := own_slice hown'
                        have HBx4 := Lib.hid hbx4
                        have HBw4 := Lib.hid hbw4
                        have HOwn4 := Lib.hid hown'
                        clear hbx4 hbw4 hown' hgrow hlt
                        go_wp2
                        go_roundw
                        case rel => exact ⟨k + 1, _, by omega, by go_num, HBx4.out.store 1 _, by rw [HL2.out, HKs.out, List.length_append, List.map_append]; exact rowStore HOwn4.out (Nat.lt_succ_self _) 1 _, HBw4.out.setCell (by show wa.heap.size ≤ wa.heap.size; omega) _, Nat.le_trans hsz4 ((Below.refl 0 w4).setCell (Nat.zero_le _) _).size⟩
                        case measure => simp [intOf]; omega
                      · have h3' : (nc == (c : Int)) = false := by simpa using h3
                        rw [if_neg h3, List.append_nil] at hks
                        have HKs := Lib.hid hks
                        have HHl := Lib.hid hll
                        have HBx := Lib.hid hbx
                        have HOu := Lib.hid hou
                        have HBw := Lib.hid hbw
                        clear hks hkl hl1 hcl hll hbx hou hbw h3
                        go_wp2
                        go_roundw
                        case rel => exact ⟨k + 1, _, by omega, by go_num, HBx.out, by rw [HKs.out]; exact HOu.out, HBw.out, hsw⟩
                        case measure => simp [intOf]; omega
                    · obtain rfl : k = l.length := by omega
                      rw [← HCs.out] at hou
                      have HBx := Lib.hid hbx
                      have HOu := Lib.hid hou
                      have HBw := Lib.hid hbw
                      clear hbx hou hbw hl1 hcl
                      go_wp2
                      go_roundw
                      case rel => exact ⟨c + 1, _, by omega, by go_num, HBx.out, HOu.out, HBw.out, hsw⟩
                      case measure => simp [intOf]; omega
                · obtain rfl : c = n := by omega
                  obtain ⟨pu, cu, rfl, hcu⟩ := own_slice hou
                  have b0 := hbx.cell 0
                  have b1 := hbx.cell 1
                  simp only [List.getElem?_cons_zero, List.getElem?_cons_succ] at b0 b1
                  have HOnA := Lib.hid (fun o => (HOwn.out.below hbw).below ((Below.refl _ _).alloc (Nat.le_refl _) o : Below wc.heap.size wc (wc.alloc o)))
                  have HOuA := Lib.hid (fun o => rowBase (hou.alloc o) (show wz.heap.size ≤ wa.heap.size + 1 by have := HBr.out.size; omega))
                  have HNew := Lib.hid (BoxAt.made wc 39 [.int .i64 sh, .slice pu (renC nm l c).length cu])
                  have HBa := Lib.hid (HBr.out.trans (hbw.mono HBr.out.size))
                  clear hbx hou hbw
                  go_wp2_with (at_builtin; refine wpList_append_net rfl _ _ rfl wz.heap.size v _ sh (renC nm l c) _ rfl (HOnA.out _) (HOuA.out _) wc.heap.size 1 rfl (HNew.out.cell 0) (HNew.out.cell 1) ?hl ?hb ?_)
                  case hl => rw [HOl2.out]; omega
                  case hb => have := HBa.out.size; simp; omega
                  intro v' w4 hown' hgrow hlt
                  have hbz4 : Below wz.heap.size wz w4 := (HBa.out.alloc HBa.out.size _).grown hgrow (by have := HBa.out.size; simp; omega) fun b hb => (hlt b hb).1
                  rw [← HOs.out] at hown'
                  have HO4 := Lib.hid hown'
                  have HB4 := Lib.hid hbz4
                  clear hown' hgrow hlt hbz4
                  go_wp2
                  go_roundw
                  case rel => exact ⟨i + 1, _, by omega, rfl, by go_num, HO4.out, HB4.out⟩
                  case measure => simp [intOf]; omega
            · obtain rfl : i = xs.length := by omega
              rw [List.take_of_length_le (Nat.le_refl _)] at hown
              have HOwn := Lib.hid hown
              have HBr := Lib.hid hbr
              clear hown hbr h0 hi
              go_wp2
              go_loopw [14, 15] (fun av ji wr => ∃ (j : Nat) (u : Value), j ≤ ord.length ∧ av = u ∧ ji = .int .i64 j ∧ wr.ownsRow wa.heap.size 3 1 u j (((anotherOf nm ord).take j).map (Value.int .i64)) ∧ Below wa.heap.size wa wr) (fun _ ji _ => ord.length - (intOf ji).toNat)
              case atStart => exact ⟨0, _, Nat.zero_le _, rfl, rfl, World.ownsRow_nil _ _ _ _, Below.refl _ _⟩
              case round =>
                obtain ⟨j, u, hj, huu, rfl, hou, hbj⟩ := hrel
                obtain ⟨wc, rfl⟩ : ∃ x, x = wr := ⟨wr, rfl⟩
                replace huu := huu.symm
                subst huu
                by_cases h1 : j < ord.length
                · obtain ⟨gq, oq, rfl, hgq, hco⟩ := (HO2.out.below (HBr.out.trans (hbj.mono HBr.out.size))).at h1
                  have hor := HOo.out.rng _ (getD_mem_int h1)
                  have hat : (anotherOf nm ord).take (j + 1) = (anotherOf nm ord).take j ++ [nm.getD (ord.getD j 0).toNat 0] := by
                    rw [int_take (by unfold anotherOf; rw [List.length_map]; exact h1)]
                    unfold anotherOf
                    simp [List.getD_eq_getElem?_getD, List.getElem?_map, List.getElem?_eq_getElem h1]
                  have hal : ((anotherOf nm ord).take j).length = j := by rw [List.length_take]; unfold anotherOf; rw [List.length_map]; omega
                  generalize ord.getD j 0 = od at *
                  obtain ⟨o, rfl⟩ : ∃ o : Nat, od = (o : Int) := ⟨od.toNat, by omega⟩
                  rw [show ((o : Int)).toNat = o by omega] at hat
                  obtain ⟨gn, on, rfl, hgn, hcn⟩ := (HT2.out.below (HBr.out.trans (hbj.mono HBr.out.size))).at (i := o) (by rw [HMl.out]; omega)
                  have hon : o < nm.length := by rw [HMl.out]; omega
                  generalize nm.getD o 0 = no at *
                  have hj100 : j ≤ 100 := by have := HOl.out; omega
                  have HAt := Lib.hid hat
                  have HOu := Lib.hid hou
                  have HBj := Lib.hid hbj
                  clear hat hou hbj hal
                  go_wp2_with (at_builtin; refine wpList_append_ints rfl _ _ rfl wa.heap.size u j _ [no] rfl (HOu.out.alloc _) (some ⟨wc.heap.size, 0, none⟩) 1 1 rfl rfl (intV_one wc no) (by intro h; cases h) (by omega) (by have := HBj.out.size; simp; omega) ?_)
                  intro v' w4 hown' hgrow
                  have hlt := (HOu.out.alloc (.cells #[.int .i64 no] 3)).lt
                  have hb4 : Below wa.heap.size wa w4 := (HBj.out.alloc HBj.out.size _).grown hgrow (by have := HBj.out.size; simp; omega) fun b hb => (hlt b hb).1
                  have HO4 := Lib.hid (show w4.ownsRow wa.heap.size 3 1 v' (j + 1) (((anotherOf nm ord).take (j + 1)).map (Value.int .i64)) by rw [HAt.out, List.map_append, List.map_take]; exact hown')
                  have HB4 := Lib.hid hb4
                  clear hown' hgrow hlt hb4
                  go_wp2
                  go_roundw
                  case rel => exact ⟨j + 1, _, by omega, rfl, by go_num, HO4.out, HB4.out⟩
                  case measure => simp [intOf]; omega
                · obtain rfl : j = ord.length := by omega
                  have hanl : (anotherOf nm ord).length = ord.length := by unfold anotherOf; rw [List.length_map]
                  have hosl : (othersOf nm n xs).length = xs.length := by unfold othersOf; rw [List.length_map]
                  rw [List.take_of_length_le (by omega)] at hou
                  have hRen := ren_of HNe.out HOe.out HMe.out
                  have hNe2 := others_ok HNe.out HMe.out
                  have hOe2 := another_order HOe.out HMe.out
                  have hm84 : ∀ i, i < (othersOf nm n xs).length → ((othersOf nm n xs).getD i (0, [])).2.length ≤ 1000 := by
                    intro i hi
                    rw [hosl] at hi
                    rw [others_get nm n xs hi]
                    have h12 := HS.out _ (show xs.getD i (0, []) ∈ xs by rw [List.getD_eq_getElem?_getD, List.getElem?_eq_getElem hi]; exact List.getElem_mem hi)
                    have k1 := renC_le nm (xs.getD i (0, [])).2 n
                    have k2 : n * (xs.getD i (0, [])).2.length ≤ 7 * 12 := Nat.mul_le_mul hn7 h12
                    show (renC nm (xs.getD i (0, [])).2 n).length ≤ 1000
                    omega
                  obtain ⟨pv, cv, hvf, hnv⟩ := (HOwn.out.below hbj).netsV (by rw [hosl]; omega) hm84
                  rw [hosl] at hvf
                  subst hvf
                  obtain ⟨pa, cap', huf, hia, _⟩ := IntV.of_owns hou (by have := HOl.out; omega)
                  rw [hanl] at huf
                  subst huf
                  have hre1 : rowErr (n : Int) xs ord = 0 := by unfold rowErr; rw [if_pos HNe.out, HOe.out]
                  have hre2 : rowErr (n : Int) (othersOf nm n xs) (anotherOf nm ord) = 0 := by unfold rowErr; rw [if_pos hNe2, hOe2]
                  have hro := rowOk_of hre1
                  have hro2 := rowOk_of hre2
                  have hbc := HBr.out.trans (hbj.mono HBr.out.size)
                  have HB5 := Lib.hid (HB2.out.trans (hbc.mono HB2.out.size))
                  have HX5 := Lib.hid (HX2.out.below hbc)
                  have HO5 := Lib.hid (HO2.out.below hbc)
                  have HV5 := Lib.hid hnv
                  have HA5 := Lib.hid hia
                  have hTl : (tracksOf xs ord).length = xs.length := (tracks_ok hro.ok).len
                  have hlay1 : layoutOf xs n ord (tracksOf xs ord) = 0 := by rw [layout_row, if_pos hre1]; exact tracksErr_own hro.ok hro.most
                  have hlay2 : layoutOf (othersOf nm n xs) n (anotherOf nm ord) (tracksOf xs ord) = 0 := by rw [layout_row, if_pos hre2, ← hRen.tracks]; exact tracksErr_own hro2.ok hro2.most
                  have hcr := hRen.crossC (tracksOf xs ord)
                  have hbe : bestTo (othersOf nm n xs) (anotherOf nm ord) (anotherOf nm ord).length = bestTo xs ord ord.length := by rw [hRen.best, hanl]
                  have RT1 := Lib.hid (fun W (h : Below wc.heap.size wc W) => (uTracks_any p q ca cb xs ord n W (HX5.out.below h) (HO5.out.below h)).mono fun e w' k => (show ∃ p1 d1, e = .returned (.tuple #[.slice p1 xs.length d1, .int .i64 (dcnt (tracksOf xs ord) xs.length : Nat), .int .i64 0]) ∧ IntV w' p1 (tracksOf xs ord) ∧ xs.length ≤ d1 ∧ Below W.heap.size W w' by
                    obtain ⟨u, m, k1, _, k3, k4⟩ := k
                    obtain ⟨⟨p1, d1, rfl, i1, j1⟩, rfl⟩ := k3 hre1
                    rw [hre1, hTl] at k1
                    exact ⟨p1, d1, k1, i1, by omega, k4⟩))
                  have RT2 := Lib.hid (fun W (h : Below wc.heap.size wc W) => (uTracks_any pv pa cv cap' (othersOf nm n xs) (anotherOf nm ord) n W (HV5.out.below h) (HA5.out.below h)).mono fun e w' k => (show ∃ p1 d1, e = .returned (.tuple #[.slice p1 xs.length d1, .int .i64 (dcnt (tracksOf xs ord) xs.length : Nat), .int .i64 0]) ∧ IntV w' p1 (tracksOf xs ord) ∧ xs.length ≤ d1 ∧ Below W.heap.size W w' by
                    obtain ⟨u, m, k1, _, k3, k4⟩ := k
                    obtain ⟨k5, rfl⟩ := k3 hre2
                    rw [hRen.tracks] at k5
                    obtain ⟨p1, d1, rfl, i1, j1⟩ := k5
                    rw [hre2, hTl, hRen.tracks, hosl] at k1
                    exact ⟨p1, d1, k1, i1, by omega, k4⟩))
                  have RC1 := Lib.hid (fun W (h : Below wc.heap.size wc W) => (uClique_any p q ca cb xs ord n W (HX5.out.below h) (HO5.out.below h)).mono fun e w' k => (show ∃ p1 d1, e = .returned (.tuple #[.slice p1 (bestTo xs ord ord.length).1.length d1, .int .i64 (bestTo xs ord ord.length).2, .int .i64 0]) ∧ IntV w' p1 (bestTo xs ord ord.length).1 ∧ Below W.heap.size W w' by
                    obtain ⟨u, m, k1, _, k3, k4⟩ := k
                    obtain ⟨⟨p1, d1, rfl, i1, j1⟩, rfl⟩ := k3 hre1
                    rw [hre1] at k1
                    exact ⟨p1, d1, k1, i1, k4⟩))
                  have RC2 := Lib.hid (fun W (h : Below wc.heap.size wc W) => (uClique_any pv pa cv cap' (othersOf nm n xs) (anotherOf nm ord) n W (HV5.out.below h) (HA5.out.below h)).mono fun e w' k => (show ∃ p1 d1, e = .returned (.tuple #[.slice p1 (bestTo xs ord ord.length).1.length d1, .int .i64 (bestTo xs ord ord.length).2, .int .i64 0]) ∧ IntV w' p1 (bestTo xs ord ord.length).1 ∧ Below W.heap.size W w' by
                    obtain ⟨u, m, k1, _, k3, k4⟩ := k
                    obtain ⟨k5, rfl⟩ := k3 hre2
                    rw [hbe] at k5
                    obtain ⟨p1, d1, rfl, i1, j1⟩ := k5
                    rw [hre2, hbe] at k1
                    exact ⟨p1, d1, k1, i1, k4⟩))
                  have RX1 := Lib.hid (fun W p1 d1 (h : Below wc.heap.size wc W) (ht : IntV W p1 (tracksOf xs ord)) => (uCrossings_any p q p1 ca cb d1 xs ord (tracksOf xs ord) n W (HX5.out.below h) (HO5.out.below h) ht).mono fun e w' k => (show e = .returned (.tuple #[.int .i64 (crossC xs ord (tracksOf xs ord)), .int .i64 0]) ∧ Below W.heap.size W w' by
                    obtain ⟨m, k1, _, k3, k4⟩ := k
                    obtain rfl := k3 hlay1
                    rw [hlay1] at k1
                    exact ⟨k1, k4⟩))
                  have RX2 := Lib.hid (fun W p1 d1 (h : Below wc.heap.size wc W) (ht : IntV W p1 (tracksOf xs ord)) => (uCrossings_any pv pa p1 cv cap' d1 (othersOf nm n xs) (anotherOf nm ord) (tracksOf xs ord) n W (HV5.out.below h) (HA5.out.below h) ht).mono fun e w' k => (show e = .returned (.tuple #[.int .i64 (crossC xs ord (tracksOf xs ord)), .int .i64 0]) ∧ Below W.heap.size W w' by
                    obtain ⟨m, k1, _, k3, k4⟩ := k
                    obtain rfl := k3 hlay2
                    rw [hlay2, hcr] at k1
                    exact ⟨k1, k4⟩))
                  have RE1 := Lib.hid (fun W (h : Below wc.heap.size wc W) => (uExtents_any p q ca cb xs ord n W (HX5.out.below h) (HO5.out.below h)).mono fun e w' k => (show ∃ x, e = .returned (.tuple #[.slice (some ⟨x, 0, none⟩) xs.length xs.length, .int .i64 0]) ∧ PairsV w' (some ⟨x, 0, none⟩) (extsOf xs ord) ∧ Below W.heap.size W w' by
                    obtain ⟨u, k1, _, k3, k4⟩ := k
                    obtain ⟨x, rfl, k5⟩ := k3 hre1
                    rw [hre1] at k1
                    exact ⟨x, k1, k5, k4⟩))
                  have RE2 := Lib.hid (fun W (h : Below wc.heap.size wc W) => (uExtents_any pv pa cv cap' (othersOf nm n xs) (anotherOf nm ord) n W (HV5.out.below h) (HA5.out.below h)).mono fun e w' k => (show ∃ x, e = .returned (.tuple #[.slice (some ⟨x, 0, none⟩) xs.length xs.length, .int .i64 0]) ∧ PairsV w' (some ⟨x, 0, none⟩) (extsOf xs ord) ∧ Below W.heap.size W w' by
                    obtain ⟨u, k1, _, k3, k4⟩ := k
                    obtain ⟨x, rfl, k5⟩ := k3 hre2
                    rw [hre2, hosl] at k1
                    rw [hRen.exts] at k5
                    exact ⟨x, k1, k5, k4⟩))
                  have hEl : (extsOf xs ord).length = xs.length := extsOf_len xs ord
                  rw [hosl, hanl] at RT2 RC2 RX2 RE2
                  rw [hTl] at RX1 RX2
                  have HTl := Lib.hid hTl
                  have HEl := Lib.hid hEl
                  have hbcc : Below wc.heap.size wc wc := Below.refl _ _
                  have HR := Lib.hid hbcc
                  clear hbcc hTl hEl hcr hlay1 hlay2 hbe hRen hNe2 hOe2 hm84 hnv hia hre1 hre2 hro hro2 hbc hou hbj hanl hosl
                  generalize dcnt (tracksOf xs ord) xs.length = D at *
                  generalize tracksOf xs ord = T at *
                  generalize bestTo xs ord ord.length = bt at *
                  generalize crossC xs ord T = cr at *
                  generalize extsOf xs ord = E at *
                  obtain ⟨C, P⟩ := bt
                  simp only at RC1 RC2
                  go_upto_region 24 with (go_at_call 19; (with_reducible refine (RT1.out _ HR.out).mono ?_); rintro e x1 ⟨p1, d1, rfl, i1, j1, k1⟩)
                  have B1 := Lib.hid k1
                  have I1 := Lib.hid i1
                  clear k1 i1
                  go_upto_region 25 with (go_at_call 19; (with_reducible refine (RT2.out _ B1.out).mono ?_); rintro e x2 ⟨p2, d2, rfl, i2, j2, k2⟩)
                  have B2 := Lib.hid (B1.out.trans (k2.mono B1.out.size))
                  have I1 := Lib.hid (I1.out.below k2)
                  have I2 := Lib.hid i2
                  clear k2 i2
                  go_upto_region 26 with (go_at_call 20; (with_reducible refine (RC1.out _ B2.out).mono ?_); rintro e x3 ⟨p3, d3, rfl, i3, k3⟩)
                  have B3 := Lib.hid (B2.out.trans (k3.mono B2.out.size))
                  have I1 := Lib.hid (I1.out.below k3)
                  have I2 := Lib.hid (I2.out.below k3)
                  have I3 := Lib.hid i3
                  clear k3 i3
                  go_upto_region 27 with (go_at_call 20; (with_reducible refine (RC2.out _ B3.out).mono ?_); rintro e x4 ⟨p4, d4, rfl, i4, k4⟩)
                  have B4 := Lib.hid (B3.out.trans (k4.mono B3.out.size))
                  have I1 := Lib.hid (I1.out.below k4)
                  have I2 := Lib.hid (I2.out.below k4)
                  have I3 := Lib.hid (I3.out.below k4)
                  have I4 := Lib.hid i4
                  clear k4 i4
                  go_upto_region 28 with (go_at_call 28; (with_reducible refine (RX1.out _ _ _ B4.out I1.out).mono ?_); rintro e x5 ⟨rfl, k5⟩)
                  have B5 := Lib.hid (B4.out.trans (k5.mono B4.out.size))
                  have I1 := Lib.hid (I1.out.below k5)
                  have I2 := Lib.hid (I2.out.below k5)
                  have I3 := Lib.hid (I3.out.below k5)
                  have I4 := Lib.hid (I4.out.below k5)
                  clear k5
                  go_upto_region 29 with (go_at_call 28; (with_reducible refine (RX2.out _ _ _ B5.out I2.out).mono ?_); rintro e x6 ⟨rfl, k6⟩)
                  have B6 := Lib.hid (B5.out.trans (k6.mono B5.out.size))
                  have I1 := Lib.hid (I1.out.below k6)
                  have I2 := Lib.hid (I2.out.below k6)
                  have I3 := Lib.hid (I3.out.below k6)
                  have I4 := Lib.hid (I4.out.below k6)
                  clear k6
                  go_upto_region 30 with (go_at_call 11; (with_reducible refine (RE1.out _ B6.out).mono ?_); rintro e x7 ⟨y1, rfl, e1, k7⟩)
                  have B7 := Lib.hid (B6.out.trans (k7.mono B6.out.size))
                  have I1 := Lib.hid (I1.out.below k7)
                  have I2 := Lib.hid (I2.out.below k7)
                  have I3 := Lib.hid (I3.out.below k7)
                  have I4 := Lib.hid (I4.out.below k7)
                  have E1 := Lib.hid e1
                  clear k7 e1
                  go_upto_region 31 with (go_at_call 11; (with_reducible refine (RE2.out _ B7.out).mono ?_); rintro e x8 ⟨y2, rfl, e2, k8⟩)
                  have B8 := Lib.hid (B7.out.trans (k8.mono B7.out.size))
                  have I1 := Lib.hid (I1.out.below k8)
                  have I2 := Lib.hid (I2.out.below k8)
                  have I3 := Lib.hid (I3.out.below k8)
                  have I4 := Lib.hid (I4.out.below k8)
                  have E1 := Lib.hid (E1.out.below k8)
                  have E2 := Lib.hid e2
                  clear k8 e2 RT1 RT2 RC1 RC2 RX1 RX2 RE1 RE2
                  go_wp2
                  go_loopw [36] (fun ii wr => ∃ (k : Nat), k ≤ xs.length ∧ ii = .int .i64 k ∧ Below x8.heap.size x8 wr) (fun ii _ => xs.length - (intOf ii).toNat)
                  case atStart => exact ⟨0, Nat.zero_le _, rfl, Below.refl _ _⟩
                  case round =>
                    obtain ⟨k, hk, rfl, hbk⟩ := hrel
                    by_cases h2 : k < xs.length
                    · obtain ⟨g1, o1, hgo1, hg1, a1, a2⟩ := (E1.out.below hbk).at (i := k) (by rw [HEl.out]; exact h2)
                      obtain ⟨g2, o2, hgo2, hg2, b1, b2⟩ := (E2.out.below hbk).at (i := k) (by rw [HEl.out]; exact h2)
                      injection hgo1 with hgo1
                      injection hgo1 with e1 e2 _
                      subst e1
                      subst e2
                      injection hgo2 with hgo2
                      injection hgo2 with e1 e2 _
                      subst e1
                      subst e2
                      generalize E.getD k (0, 0) = lh at *
                      obtain ⟨lo, hi⟩ := lh
                      rw [Nat.zero_add] at a1 a2 b1 b2
                      simp only at a1 a2 b1 b2
                      have heq : ∀ W, Sem.run Tryz.prog (Op.equalIn 10000 40 (.agg #[.int .i64 lo, .int .i64 hi]) (.agg #[.int .i64 lo, .int .i64 hi])) W = .ok true W := fun W => by rw [pair_eq]; simp
                      have HBk := Lib.hid hbk
                      clear hbk
                      go_wp2
                      go_quiet (fail)
                      go_wp2
                      go_roundw
                      case rel => exact ⟨k + 1, by omega, by go_num, below_drewN HBk.out _⟩
                      case measure => simp [intOf]; omega
                    · obtain rfl : k = xs.length := by omega
                      have I1 := Lib.hid (I1.out.below hbk)
                      have I2 := Lib.hid (I2.out.below hbk)
                      have I3 := Lib.hid (I3.out.below hbk)
                      have I4 := Lib.hid (I4.out.below hbk)
                      have HBk := Lib.hid (HB5.out.trans ((B8.out.trans (hbk.mono B8.out.size)).mono HB5.out.size))
                      clear hbk
                      have K1 := Lib.hid (fun W (h : Below wr.heap.size wr W) => iSame_any p1 p2 d1 d2 T T W (I1.out.below h) (I2.out.below h))
                      have K2 := Lib.hid (fun W (h : Below wr.heap.size wr W) => iSame_any p3 p4 d3 d4 C C W (I3.out.below h) (I4.out.below h))
                      simp only [decide_true] at K1 K2
                      rw [HTl.out] at K1
                      go_wp2_with (first | (go_at_call 36; (with_reducible refine (K1.out _ (Below.refl _ _)).mono ?_); rintro e x9 ⟨rfl, k9⟩) | (go_at_call 36; (with_reducible refine (K2.out _ k9).mono ?_); rintro e xa ⟨rfl, ka⟩))
                      go_ret
                      exact ⟨rfl, HBk.out.trans ((k9.trans (ka.mono k9.size)).mono HBk.out.size)⟩
        · have hne2 : (orderOf cols nm != 0) = true := by simpa using hme
          generalize orderOf cols nm = oe at *
          clear hs hv ho ht hx hli l2 l3 hne hoe hme
          go_wp2_with (first | (go_at_call 9; (with_reducible refine (KA.out _ ?hb).mono ?_); (case hb => repeat' (first | assumption | exact Below.size (B := w1.heap.size) (by assumption) | refine Below.drew ?_ | refine Below.alloc ?_ ?_ _ | refine Below.setCell ?_ ?_ _ | refine below_drewN ?_ _)); rintro e wz ⟨rfl, hb⟩) | (go_at_call 10; (with_reducible refine (KL.out _ ?hb).mono ?_); (case hb => repeat' (first | assumption | exact Below.size (B := w1.heap.size) (by assumption) | refine Below.drew ?_ | refine Below.alloc ?_ ?_ _ | refine Below.setCell ?_ ?_ _ | refine below_drewN ?_ _)); rintro e wz ⟨rfl, hb⟩) | (go_at_call 14; (with_reducible refine (KN.out _ ?hb).mono ?_); (case hb => repeat' (first | assumption | exact Below.size (B := w1.heap.size) (by assumption) | refine Below.drew ?_ | refine Below.alloc ?_ ?_ _ | refine Below.setCell ?_ ?_ _ | refine below_drewN ?_ _)); rintro e wz ⟨rfl, hb⟩) | (go_at_call 15; (with_reducible refine (KO.out _ ?hb).mono ?_); (case hb => repeat' (first | assumption | exact Below.size (B := w1.heap.size) (by assumption) | refine Below.drew ?_ | refine Below.alloc ?_ ?_ _ | refine Below.setCell ?_ ?_ _ | refine below_drewN ?_ _)); rintro e wz ⟨rfl, hb⟩) | (go_at_call 15; (with_reducible refine (KM.out _ ?hb).mono ?_); (case hb => repeat' (first | assumption | exact Below.size (B := w1.heap.size) (by assumption) | refine Below.drew ?_ | refine Below.alloc ?_ ?_ _ | refine Below.setCell ?_ ?_ _ | refine below_drewN ?_ _)); rintro e wz ⟨rfl, hb⟩))
          go_ret
          exact ⟨rfl, HG.out.trans (Below.mono (by assumption) HG.out.size)⟩
      · have hne2 : (orderOf cols ord != 0) = true := by simpa using hoe
        generalize orderOf cols ord = oe at *
        clear hs hv ho ht hx hli l2 l3 hne hoe KM
        go_wp2_with (first | (go_at_call 9; (with_reducible refine (KA.out _ ?hb).mono ?_); (case hb => repeat' (first | assumption | exact Below.size (B := w1.heap.size) (by assumption) | refine Below.drew ?_ | refine Below.alloc ?_ ?_ _ | refine Below.setCell ?_ ?_ _ | refine below_drewN ?_ _)); rintro e wz ⟨rfl, hb⟩) | (go_at_call 10; (with_reducible refine (KL.out _ ?hb).mono ?_); (case hb => repeat' (first | assumption | exact Below.size (B := w1.heap.size) (by assumption) | refine Below.drew ?_ | refine Below.alloc ?_ ?_ _ | refine Below.setCell ?_ ?_ _ | refine below_drewN ?_ _)); rintro e wz ⟨rfl, hb⟩) | (go_at_call 14; (with_reducible refine (KN.out _ ?hb).mono ?_); (case hb => repeat' (first | assumption | exact Below.size (B := w1.heap.size) (by assumption) | refine Below.drew ?_ | refine Below.alloc ?_ ?_ _ | refine Below.setCell ?_ ?_ _ | refine below_drewN ?_ _)); rintro e wz ⟨rfl, hb⟩) | (go_at_call 15; (with_reducible refine (KO.out _ ?hb).mono ?_); (case hb => repeat' (first | assumption | exact Below.size (B := w1.heap.size) (by assumption) | refine Below.drew ?_ | refine Below.alloc ?_ ?_ _ | refine Below.setCell ?_ ?_ _ | refine below_drewN ?_ _)); rintro e wz ⟨rfl, hb⟩))
        go_ret
        exact ⟨rfl, HG.out.trans (Below.mono (by assumption) HG.out.size)⟩
    · have hne2 : (netsOf cols xs != 0) = true := by simpa using hne
      generalize netsOf cols xs = ne at *
      clear hs hv ho ht hx hli l2 l3 hne
      go_wp2_with (first | (go_at_call 9; (with_reducible refine (KA.out _ ?hb).mono ?_); (case hb => repeat' (first | assumption | exact Below.size (B := w1.heap.size) (by assumption) | refine Below.drew ?_ | refine Below.alloc ?_ ?_ _ | refine Below.setCell ?_ ?_ _ | refine below_drewN ?_ _)); rintro e wz ⟨rfl, hb⟩) | (go_at_call 10; (with_reducible refine (KL.out _ ?hb).mono ?_); (case hb => repeat' (first | assumption | exact Below.size (B := w1.heap.size) (by assumption) | refine Below.drew ?_ | refine Below.alloc ?_ ?_ _ | refine Below.setCell ?_ ?_ _ | refine below_drewN ?_ _)); rintro e wz ⟨rfl, hb⟩) | (go_at_call 14; (with_reducible refine (KN.out _ ?hb).mono ?_); (case hb => repeat' (first | assumption | exact Below.size (B := w1.heap.size) (by assumption) | refine Below.drew ?_ | refine Below.alloc ?_ ?_ _ | refine Below.setCell ?_ ?_ _ | refine below_drewN ?_ _)); rintro e wz ⟨rfl, hb⟩))
      go_ret
      exact ⟨rfl, HG.out.trans (Below.mono (by assumption) HG.out.size)⟩
end Go.Proofs.YtggcnnpklkmeoaaGreatDoor
end

