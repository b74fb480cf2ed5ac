import Derived.Test.YtggcnnpklkmeoaaGreatDoorWC
import Derived.StillTailTactics
namespace Go.Proofs.YtggcnnpklkmeoaaGreatDoor
open Go.RowKit Go

def netAt (nets : List (Int × List Int)) (c : Int) : List Int := (nets.getD c.toNat (0, [])).2

/-- Does net i of a clique meet the first k of it? -/
def rowMeet (nets : List (Int × List Int)) (ord cl : List Int) (i : Nat) : Nat → Bool
  | 0 => true
  | k + 1 => rowMeet nets ord cl i k && meetB ord (netAt nets (cl.getD i 0)) (netAt nets (cl.getD k 0))
/-- Do the first i nets of a clique meet in pairs? -/
def allMeet (nets : List (Int × List Int)) (ord cl : List Int) : Nat → Bool
  | 0 => true
  | i + 1 => allMeet nets ord cl i && rowMeet nets ord cl i i

theorem rowMeet_false {nets : List (Int × List Int)} {ord cl : List Int} {i k : Nat} (h : rowMeet nets ord cl i (k + 1) = false) : ∀ {m : Nat}, k < m → rowMeet nets ord cl i m = false
  | 0, hk => by omega
  | m + 1, hk => by
    by_cases e : k = m
    · subst e; exact h
    · unfold rowMeet; rw [rowMeet_false h (by omega)]; rfl

theorem allMeet_false {nets : List (Int × List Int)} {ord cl : List Int} {i : Nat} (h : rowMeet nets ord cl i i = false) : ∀ {m : Nat}, i < m → allMeet nets ord cl m = false
  | 0, hk => by omega
  | m + 1, hk => by
    unfold allMeet
    by_cases e : i = m
    · subst e; rw [h, Bool.and_false]
    · rw [allMeet_false h (by omega)]; rfl

/-- The error of a clique. -/
def cliqueOf (nets : List (Int × List Int)) (ord cl : List Int) : Int :=
  if orderFrom nets.length cl 0 cl.length = 0 then (if allMeet nets ord cl cl.length = true then 0 else 20) else orderFrom nets.length cl 0 cl.length

set_option maxHeartbeats 4000000 in
set_option maxRecDepth 100000 in
/-- CheckClique of the reference of chapter 7. -/
theorem bCheckClique_any (p q r : Option Addr) (ca cb cc : Nat) (nets : List (Int × List Int)) (ord cl : List Int) (w : World) (hx : NetsV w p nets) (ho : IntV w q ord) (hc : IntV w r cl) (hcap : cl.length ≤ cc) :
    Calls Tryz.prog 27 #[.slice p nets.length ca, .slice q ord.length cb, .slice r cl.length cc] w fun e w' => e = .returned (.int .i64 (cliqueOf nets ord cl)) ∧ Below w.heap.size w w' := by
  have hm := hx.1
  have hm2 := hc.1
  have hr : cliqueOf nets ord cl = if orderFrom nets.length cl 0 (cl.length - 0) = 0 then (if allMeet nets ord cl cl.length = true then 0 else 20) else orderFrom nets.length cl 0 (cl.length - 0) := rfl
  generalize cliqueOf nets ord cl = res at *
  generalize he : orderFrom nets.length cl 0 (cl.length - 0) = er at *
  have HR := Lib.hid hr
  have HE := Lib.hid he.symm
  clear hr he
  go_enter Tryz.func27, Tryz.ntmps27
  go_wp2
  go_loopw [7] (fun ii wr => ∃ (k : Nat), k ≤ cl.length ∧ ii = .int .i64 k ∧ Hid (er = orderFrom nets.length cl k (cl.length - k)) ∧ Hid (∀ j, j < k → 0 ≤ cl.getD j 0 ∧ cl.getD j 0 < nets.length) ∧ ∃ nd, wr = w.drewN nd) (fun ii _ => cl.length - (intOf ii).toNat)
  case atStart => exact ⟨0, Nat.zero_le _, rfl, HE, Lib.hid (fun j h => by omega), 0, rfl⟩
  case round =>
    obtain ⟨k, hk, rfl, hrel, hin0, nd, rfl⟩ := hrel
    by_cases h0 : k < cl.length
    · obtain ⟨g, o, rfl, hg, hcc⟩ := hc.at (i := k) h0
      have hlen : (cl.take k).length = k := by rw [List.length_take]; omega
      have hin : ∀ x n, Calls Tryz.prog 45 #[.slice (some ⟨g, o, none⟩) k cc, .int .i64 x] (w.drewN (nd + n)) fun e w'' => e = .returned (.bool (decide (x ∈ cl.take k))) ∧ ∃ m, w'' = w.drewN (nd + m) := by
        intro x n
        have := bIn_any (some ⟨g, o, none⟩) cc (cl.take k) x (w.drewN (nd + n)) ((hc.take k).drewN _)
        rw [hlen] at this
        exact qsame this
      have hs : er = if cl.getD k 0 < 0 ∨ (nets.length : Int) ≤ cl.getD k 0 then 10 else if cl.getD k 0 ∈ cl.take k then 9 else orderFrom nets.length cl (k + 1) (cl.length - (k + 1)) := by
        rw [hrel.out, show cl.length - k = (cl.length - (k + 1)) + 1 by omega]; rfl
      have HI := Lib.hid hin
      have hnew : 0 ≤ cl.getD k 0 → cl.getD k 0 < nets.length → ∀ j, j < k + 1 → 0 ≤ cl.getD j 0 ∧ cl.getD j 0 < nets.length := by
        intro a b j hj
        by_cases e : j = k
        · subst e; exact ⟨a, b⟩
        · exact hin0.out j (by omega)
      have HNew := Lib.hid hnew
      generalize hy : cl.getD k 0 = y at *
      have HS := Lib.hid hs
      clear hs hlen hin hnew hy hc
      by_cases h1 : y < 0
      · have e10 : er = 10 := by rw [HS.out, if_pos (.inl h1)]
        have hz : res = 10 := by rw [HR.out, e10]; rfl
        have HZ := Lib.hid hz
        clear hz e10
        go_wp2
        go_ret
        exact ⟨iret HZ.out.symm, dn_below _ _⟩
      by_cases h2 : (nets.length : Int) ≤ y
      · have e10 : er = 10 := by rw [HS.out, if_pos (.inr h2)]
        have hz : res = 10 := by rw [HR.out, e10]; rfl
        have HZ := Lib.hid hz
        clear hz e10
        go_wp2
        go_ret
        exact ⟨iret HZ.out.symm, dn_below _ _⟩
      by_cases h3 : y ∈ cl.take k
      · have e9 : er = 9 := by rw [HS.out, if_neg (by omega), if_pos h3]
        have hz : res = 9 := by rw [HR.out, e9]; rfl
        have HZ := Lib.hid hz
        have hd3 : decide (y ∈ cl.take k) = true := decide_eq_true h3
        clear hz e9
        go_wp2
        go_quiet ((go_at_call 45; exact HI.out _ _))
        go_wp2
        go_ret
        exact ⟨iret HZ.out.symm, by first | exact dn_below _ _ | exact below_drewN (dn_below _ _) _⟩
      · have hz : er = orderFrom nets.length cl (k + 1) (cl.length - (k + 1)) := by rw [HS.out, if_neg (by omega), if_neg h3]
        have HZ := Lib.hid hz
        have hd3 : decide (y ∈ cl.take k) = false := decide_eq_false h3
        have HN2 := Lib.hid (HNew.out (by omega) (by omega))
        clear hz
        go_wp2
        go_quiet ((go_at_call 45; exact HI.out _ _))
        go_wp2
        go_roundw
        case rel => exact ⟨k + 1, by omega, by go_num, HZ, HN2, by first | exact ⟨_, rfl⟩ | exact ⟨nd + 1, rfl⟩⟩
        case measure => simp [intOf]; omega
    · obtain rfl : k = cl.length := by omega
      have hz : er = 0 := by rw [hrel.out, Nat.sub_self]; rfl
      have hz2 : res = if allMeet nets ord cl cl.length = true then 0 else 20 := by rw [HR.out, hz, if_pos rfl]
      have HZ := Lib.hid hz2
      clear hz hz2
      have hx2 := hx.drewN nd
      have hc2 := hc.drewN nd
      have ho2 := ho.drewN nd
      have hB0 := dn_below w nd
      go_wp2
      generalize w.drewN nd = W1 at *
      have HX := Lib.hid hx2
      have HCL := Lib.hid hc2
      have HO := Lib.hid ho2
      have HB0 := Lib.hid hB0
      clear hx hc ho hx2 hc2 ho2 hB0
      go_loopw [8] (fun ii wr => ∃ (i : Nat), i ≤ cl.length ∧ ii = .int .i64 i ∧ Hid (allMeet nets ord cl i = true) ∧ Below W1.heap.size W1 wr) (fun ii _ => cl.length - (intOf ii).toNat)
      case atStart => exact ⟨0, Nat.zero_le _, rfl, Lib.hid rfl, Below.refl _ _⟩
      case round =>
        obtain ⟨i, hi, rfl, hrel2, hb⟩ := hrel
        by_cases h0 : i < cl.length
        · go_wp2
          obtain ⟨wo, hwo⟩ : ∃ wo : World, wo = wr := ⟨_, rfl⟩
          rw [← hwo] at hb
          have HBo := Lib.hid hb
          rw [← hwo]
          clear hwo hb
          go_loopw [9] (fun ji wj => ∃ (k : Nat), k ≤ i ∧ ji = .int .i64 k ∧ Hid (rowMeet nets ord cl i k = true) ∧ Below wo.heap.size wo wj) (fun ji _ => i - (intOf ji).toNat)
          case atStart => exact ⟨0, Nat.zero_le _, rfl, Lib.hid rfl, Below.refl _ _⟩
          case round =>
            obtain ⟨k, hk2, rfl, hrel3, hbj⟩ := hrel
            by_cases h6 : k < i
            · have hbW : Below W1.heap.size W1 wr := HBo.out.trans (hbj.mono HBo.out.size)
              obtain ⟨g, o, rfl, hg, hci⟩ := (HCL.out.below hbW).at (i := i) h0
              obtain ⟨g', o', hgo, hg', hck⟩ := (HCL.out.below hbW).at (i := k) (by omega)
              injection hgo with hgo; injection hgo with e1 e2 e3
              subst e1; subst e2
              have hi1 := hin0.out i h0
              have hk1 := hin0.out k (by omega)
              have hrow : rowMeet nets ord cl i (k + 1) = meetB ord (netAt nets (cl.getD i 0)) (netAt nets (cl.getD k 0)) := by
                show (rowMeet nets ord cl i k && _) = _
                rw [hrel3.out, Bool.true_and]
              have hfalse : rowMeet nets ord cl i (k + 1) = false → res = 20 := by
                intro h
                rw [HZ.out, allMeet_false (rowMeet_false h h6) h0]; rfl
              generalize cl.getD i 0 = ci at *
              generalize cl.getD k 0 = ck at *
              obtain ⟨a, rfl⟩ : ∃ a : Nat, ci = a := ⟨ci.toNat, by omega⟩
              obtain ⟨b, rfl⟩ : ∃ b : Nat, ck = b := ⟨ck.toNat, by omega⟩
              obtain ⟨gn, on, rfl, hgn, ha1, qa, capa, ha2, hqa⟩ := (HX.out.below hbW).at (i := a) (by omega)
              obtain ⟨gn', on', hgo, hgn', hb1, qb, capb, hb2, hqb⟩ := (HX.out.below hbW).at (i := b) (by omega)
              injection hgo with hgo; injection hgo with e1 e2 e3
              subst e1; subst e2
              have hal : (a : Int) < nets.length := hi1.2
              have hbl : (b : Int) < nets.length := hk1.2
              have ena : netAt nets (a : Int) = (nets.getD a (0, [])).2 := by unfold netAt; rw [Int.toNat_natCast]
              have enb : netAt nets (b : Int) = (nets.getD b (0, [])).2 := by unfold netAt; rw [Int.toNat_natCast]
              rw [ena, enb] at hrow
              generalize nets.getD a (0, []) = na at *
              generalize nets.getD b (0, []) = nb at *
              obtain ⟨sa, la⟩ := na
              obtain ⟨sb, lb⟩ := nb
              simp only at ha1 ha2 hqa hb1 hb2 hqb hrow
              have K := Lib.hid (fun W (h : Below wr.heap.size wr W) => bMeet_any (.agg #[.int .i64 sa, .slice qa la.length capa]) (.agg #[.int .i64 sb, .slice qb lb.length capb]) (sa, la) (sb, lb) q cb ord W ⟨qa, capa, rfl, hqa.below h⟩ ⟨qb, capb, rfl, hqb.below h⟩ ((HO.out.below hbW).below h))
              simp only at K
              have HRow := Lib.hid hrow
              have HFalse := Lib.hid hfalse
              have HBW := Lib.hid hbW
              have HBJ := Lib.hid hbj
              clear hrow hfalse hbW hbj hqa hqb ena enb hi1 hk1
              have hkl : k < cl.length := by omega
              have hdw : Below wr.heap.size wr wr.drew := (Below.refl _ _).drew
              have HDW := Lib.hid hdw
              clear hdw
              cases hmt : meetB ord la lb with
              | false =>
                have hz : res = 20 := HFalse.out (by rw [HRow.out, hmt])
                have HZ3 := Lib.hid hz
                clear hz
                go_wp2
                go_still_tail 15, (by kernel_rfl)
                change wpList _ _ _ _ _ wr.drew
                generalize wr.drew = w2 at *
                go_wp2_with (go_at_call 49; refine (K.out _ HDW.out).mono ?_; rintro e w3 ⟨rfl, hb3⟩)
                go_ret
                exact ⟨iret HZ3.out.symm, HB0.out.trans ((HBW.out.trans ((HDW.out.trans (hb3.mono HDW.out.size)).mono HBW.out.size)).mono HB0.out.size)⟩
              | true =>
                have hz : rowMeet nets ord cl i (k + 1) = true := by rw [HRow.out, hmt]
                have HZ3 := Lib.hid hz
                clear hz
                go_wp2
                go_still_tail 15, (by kernel_rfl)
                change wpList _ _ _ _ _ wr.drew
                generalize wr.drew = w2 at *
                go_wp2_with (go_at_call 49; refine (K.out _ HDW.out).mono ?_; rintro e w3 ⟨rfl, hb3⟩)
                go_roundw
                case rel => exact ⟨k + 1, by omega, by go_num, HZ3, HBJ.out.trans ((HDW.out.trans (hb3.mono HDW.out.size)).mono HBJ.out.size)⟩
                case measure => simp [intOf]; omega
            · obtain rfl : k = i := by omega
              have hz : allMeet nets ord cl (k + 1) = true := by unfold allMeet; rw [hrel2.out, hrel3.out]; rfl
              have HZ2 := Lib.hid hz
              clear hz
              go_wp2
              go_roundw
              case rel => exact ⟨k + 1, by omega, by go_num, HZ2, HBo.out.trans (hbj.mono HBo.out.size)⟩
              case measure => simp [intOf]; omega
        · obtain rfl : i = cl.length := by omega
          have hz : res = 0 := by rw [HZ.out, if_pos hrel2.out]
          have HY := Lib.hid hz
          clear hz
          go_wp2
          go_ret
          exact ⟨iret HY.out.symm, HB0.out.trans (hb.mono HB0.out.size)⟩
end Go.Proofs.YtggcnnpklkmeoaaGreatDoor
