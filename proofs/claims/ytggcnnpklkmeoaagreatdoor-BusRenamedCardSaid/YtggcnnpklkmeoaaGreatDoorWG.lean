import Derived.Test.YtggcnnpklkmeoaaGreatDoorWF
section
namespace Go.Proofs.YtggcnnpklkmeoaaGreatDoor
open Go.RowKit Go

/-- The crossings of the first k tracks with the cross-shafts of track i. -/
def rowCross (f : Int → Int → Nat) (u : List Int) (i : Nat) : Nat → Nat
  | 0 => 0
  | k + 1 => rowCross f u i k + f (u.getD k 0) (u.getD i 0)
def sumCross (f : Int → Int → Nat) (u : List Int) : Nat → Nat
  | 0 => 0
  | i + 1 => sumCross f u i + rowCross f u i i

theorem rowCross_le {f : Int → Int → Nat} {b : Nat} (h : ∀ x y, f x y ≤ b) (u : List Int) (i : Nat) : ∀ k, rowCross f u i k ≤ k * b
  | 0 => Nat.zero_le _
  | k + 1 => by
    rw [Nat.add_mul, Nat.one_mul]
    exact Nat.add_le_add (rowCross_le h u i k) (h _ _)
theorem sumCross_le {f : Int → Int → Nat} {b : Nat} (h : ∀ x y, f x y ≤ b) (u : List Int) : ∀ i, sumCross f u i ≤ i * (i * b)
  | 0 => Nat.zero_le _
  | i + 1 => by
    have h1 := sumCross_le h u i
    have h2 := rowCross_le h u i i
    have h3 : (i + 1) * ((i + 1) * b) = i * ((i + 1) * b) + (i + 1) * b := by rw [Nat.add_mul, Nat.one_mul]
    have h4 : i * (i * b) ≤ i * ((i + 1) * b) := Nat.mul_le_mul_left _ (Nat.mul_le_mul_right _ (Nat.le_succ _))
    have h5 : i * b ≤ (i + 1) * b := Nat.mul_le_mul_right _ (Nat.le_succ _)
    show sumCross f u i + rowCross f u i i ≤ _
    omega

def und (nets : List (Int × List Int)) (ord tr : List Int) (a b : Int) : Nat := underTo nets ord tr a b nets.length
def crossOf (nets : List (Int × List Int)) (ord tr : List Int) : Nat := sumCross (und nets ord tr) (usedTo tr 64) (usedTo tr 64).length

theorem und_le {nets : List (Int × List Int)} (h : lens nets) (ord tr : List Int) (a b : Int) : und nets ord tr a b ≤ 1000000000 := by
  have h1 := underTo_le h ord tr a b nets.length (Nat.le_refl _)
  have h2 : nets.length * 1000000 ≤ 1000 * 1000000 := Nat.mul_le_mul_right _ h.1
  exact Nat.le_trans h1 (Nat.le_trans h2 (by decide))

set_option maxHeartbeats 4000000 in
set_option maxRecDepth 100000 in
/-- Crossings of the reference of chapter 7. -/
theorem bCrossings_any (v : Value) (x : List Int × List Int) (p : Option Addr) (ca : Nat) (nets : List (Int × List Int)) (w : World) (hx : NetsV w p nets) (hv : LayV w v x) (hlens : lens nets) (htl : nets.length ≤ x.2.length) :
    Calls Tryz.prog 32 #[.slice p nets.length ca, v] w fun e w' => e = .returned (.int .i64 (crossOf nets x.1 x.2)) ∧ Below w.heap.size w w' := by
  obtain ⟨q, cb, r, cc, rfl, ho, ht, hcap, hcap2⟩ := hv
  obtain ⟨ord, tr⟩ := x
  simp only at ho ht hcap hcap2 htl ⊢
  have hund : ∀ a b, und nets ord tr a b ≤ 1000000000 := und_le hlens ord tr
  have KU := Lib.hid (fun W (a b : Int) (h : Below w.heap.size w W) => bUnder_any (.agg #[.slice q ord.length cb, .slice r tr.length cc]) (ord, tr) p ca nets a b W (hx.below h) ⟨q, cb, r, cc, rfl, ho.below h, ht.below h, hcap, hcap2⟩ hlens htl)
  have KD := Lib.hid (fun W (h : Below w.heap.size w W) => bUsed_any (.agg #[.slice q ord.length cb, .slice r tr.length cc]) (ord, tr) W ⟨q, cb, r, cc, rfl, ho.below h, ht.below h, hcap, hcap2⟩)
  simp only at KU KD
  change Hid (∀ W (a b : Int), Below w.heap.size w W → Calls Tryz.prog 62 #[.slice p nets.length ca, .agg #[.slice q ord.length cb, .slice r tr.length cc], .int .i64 a, .int .i64 b] W fun e w' => e = .returned (.int .i64 (und nets ord tr a b)) ∧ Below W.heap.size W w') at KU
  have hres : crossOf nets ord tr = sumCross (und nets ord tr) (usedTo tr 64) (usedTo tr 64).length := rfl
  have hul := usedTo_le tr 64
  generalize und nets ord tr = f at *
  generalize usedTo tr 64 = us at *
  generalize crossOf nets ord tr = res at *
  have HRes := Lib.hid hres
  have HF2 := Lib.hid hund
  clear hx ho ht hcap hcap2 hlens htl hres hund
  go_enter Tryz.func32, Tryz.ntmps32
  go_wp2_with fail
  have G0 : Below w.heap.size w (w.alloc (.cells #[.slice q ord.length cb, .slice r tr.length cc] 49)) := (Below.refl _ _).alloc (Nat.le_refl _) _
  have G1 : (w.alloc (.cells #[.slice q ord.length cb, .slice r tr.length cc] 49)).cell? ⟨w.heap.size, 0, none⟩ = some (.slice q ord.length cb) := by go_simp
  have G2 : (w.alloc (.cells #[.slice q ord.length cb, .slice r tr.length cc] 49)).cell? ⟨w.heap.size, 1, none⟩ = some (.slice r tr.length cc) := by go_simp
  have G3 : w.heap.size < (w.alloc (.cells #[.slice q ord.length cb, .slice r tr.length cc] 49)).heap.size := by simp
  generalize w.alloc (.cells #[.slice q ord.length cb, .slice r tr.length cc] 49) = W0 at *
  have HF := Lib.hid (fun W (h : Below W0.heap.size W0 W) => (⟨(h.cell (p := ⟨w.heap.size, 0, none⟩) G3).trans G1, (h.cell (p := ⟨w.heap.size, 1, none⟩) G3).trans G2⟩ : W.cell? ⟨w.heap.size, 0, none⟩ = some (.slice q ord.length cb) ∧ W.cell? ⟨w.heap.size, 1, none⟩ = some (.slice r tr.length cc)))
  have HL := Lib.hid (fun W (h : Below W0.heap.size W0 W) => G0.trans (h.mono G0.size))
  have HG0 := Lib.hid G0
  clear G0 G1 G2 G3
  refine (KD.out W0 HG0.out).mono ?_
  rintro e w1 ⟨u, rfl, ⟨pu, cu, rfl, hiu, hcu⟩, hb1⟩
  have HIU := Lib.hid hiu
  have HB1 := Lib.hid hb1
  clear hiu hb1
  go_wp2
  go_loopw [5, 7] (fun si ii wr => ∃ (i s : Nat), i ≤ us.length ∧ ii = .int .i64 i ∧ si = .int .i64 s ∧ Hid (s = sumCross f us i) ∧ Below w1.heap.size w1 wr) (fun _ ii _ => us.length - (intOf ii).toNat)
  case atStart => exact ⟨0, 0, Nat.zero_le _, rfl, rfl, Lib.hid rfl, Below.refl _ _⟩
  case round =>
    obtain ⟨i, s, hi, rfl, rfl, hrel, hb⟩ := hrel
    have hsb : s ≤ 64 * (64 * 1000000000) := by
      rw [hrel.out]
      refine Nat.le_trans (sumCross_le HF2.out us i) ?_
      exact Nat.mul_le_mul (by omega) (Nat.mul_le_mul_right _ (by omega))
    by_cases h0 : i < us.length
    · go_wp2
      obtain ⟨wo, hwo⟩ : ∃ wo : World, wo = wr := ⟨_, rfl⟩
      rw [← hwo] at hb
      have HBo := Lib.hid hb
      rw [← hwo]
      clear hwo hb
      go_loopw [5, 8] (fun si ji wj => ∃ (k t : Nat), k ≤ i ∧ ji = .int .i64 k ∧ si = .int .i64 t ∧ Hid (t = s + rowCross f us i k) ∧ Below w1.heap.size w1 wj) (fun _ ji _ => i - (intOf ji).toNat)
      case atStart => exact ⟨0, s, Nat.zero_le _, rfl, rfl, Lib.hid rfl, HBo.out⟩
      case round =>
        obtain ⟨k, t, hk, rfl, rfl, hrel2, hbj⟩ := hrel
        by_cases h6 : k < i
        · obtain ⟨g, o, rfl, hg, hci⟩ := (HIU.out.below hbj).at (i := i) h0
          obtain ⟨g', o', hgo, hg', hck⟩ := (HIU.out.below hbj).at (i := k) (by omega)
          injection hgo with hgo; injection hgo with e1 e2 e3
          subst e1; subst e2
          have hs2 : rowCross f us i (k + 1) = rowCross f us i k + f (us.getD k 0) (us.getD i 0) := rfl
          have htb : t ≤ s + 64 * 1000000000 := by
            rw [hrel2.out]
            have := Nat.le_trans (rowCross_le HF2.out us i k) (Nat.mul_le_mul_right 1000000000 (show k ≤ 64 by omega))
            omega
          generalize us.getD k 0 = uk at *
          generalize us.getD i 0 = ui at *
          have hfb := HF2.out uk ui
          have hb01 : Below W0.heap.size W0 wr := HB1.out.trans (hbj.mono HB1.out.size)
          obtain ⟨c1, c2⟩ := HF.out wr hb01
          have hbw := HL.out _ hb01
          have HBW := Lib.hid hbw
          have K := Lib.hid (fun W (h : Below w.heap.size w W) => KU.out W uk ui h)
          generalize hfe : f uk ui = fe at *
          have HNew := Lib.hid (show t + fe = s + rowCross f us i (k + 1) by rw [hrel2.out, hs2]; omega)
          have hwrap : IntKind.i64.wrap ((t : Int) + (fe : Int)) = (t : Int) + (fe : Int) := IntWalk.i64_in _ (by omega)
          have HWrap := Lib.hid hwrap
          have HBJ := Lib.hid hbj
          have hkl : k < us.length := by omega
          have HK := Lib.hid (fun W (h : Below wr.heap.size wr W) => (⟨h, (h.cell (p := ⟨w.heap.size, 0, none⟩) (World.block_lt_of_cell? wr _ c1)).trans c1, (h.cell (p := ⟨w.heap.size, 1, none⟩) (World.block_lt_of_cell? wr _ c2)).trans c2, (h.cell (p := ⟨g, o + k, none⟩) hg).trans hck, (h.cell (p := ⟨g, o + i, none⟩) hg).trans hci⟩ :
            Below wr.heap.size wr W ∧ W.cell? ⟨w.heap.size, 0, none⟩ = some (.slice q ord.length cb) ∧ W.cell? ⟨w.heap.size, 1, none⟩ = some (.slice r tr.length cc) ∧ W.cell? ⟨g, o + k, none⟩ = some (.int .i64 uk) ∧ W.cell? ⟨g, o + i, none⟩ = some (.int .i64 ui)))
          clear hs2 hfe hwrap hbj hb01 hbw hfb htb hsb
          go_wp2
          go_region_held3 (fun w' => Below wr.heap.size wr w' ∧ w'.cell? ⟨w.heap.size, 0, none⟩ = some (.slice q ord.length cb) ∧ w'.cell? ⟨w.heap.size, 1, none⟩ = some (.slice r tr.length cc) ∧ w'.cell? ⟨g, o + k, none⟩ = some (.int .i64 uk) ∧ w'.cell? ⟨g, o + i, none⟩ = some (.int .i64 ui))
            (first | exact HK.out _ (Below.refl _ _).drew | assumption | exact HK.out _ (Below.trans (‹Below wr.heap.size wr _ ∧ _›).1 (Below.mono (by assumption) (‹Below wr.heap.size wr _ ∧ _›).1.size)))
            (first
              | (go_at_call 62; refine (K.out _ ?_).mono ?_; (exact HBW.out.trans (Below.mono (‹Below wr.heap.size wr _ ∧ _›).1 HBW.out.size)); rintro e w1 ⟨rfl, hbo⟩))
          all_goals
            have hfin := HBJ.out.trans (Below.mono (‹Below wr.heap.size wr _ ∧ _›).1 HBJ.out.size)
            go_wp2
            go_roundw
            case rel => exact ⟨k + 1, t + fe, by omega, by go_num, by rw [HWrap.out]; go_num, HNew, hfin⟩
            case measure => simp [intOf]; omega
        · obtain rfl : k = i := by omega
          have hz : t = sumCross f us (k + 1) := by rw [hrel2.out, hrel.out]; rfl
          have HZ2 := Lib.hid hz
          clear hz hsb
          go_wp2
          go_roundw
          case rel => exact ⟨k + 1, t, by omega, by go_num, rfl, HZ2, hbj⟩
          case measure => simp [intOf]; omega
    · obtain rfl : i = us.length := by omega
      have hz : res = s := by rw [HRes.out, hrel.out]
      have HY := Lib.hid hz
      clear hz hsb
      go_wp2
      go_ret
      exact ⟨iret (by rw [HY.out]), HL.out _ (HB1.out.trans (hb.mono HB1.out.size))⟩
end Go.Proofs.YtggcnnpklkmeoaaGreatDoor
end

section
namespace Go.Proofs.YtggcnnpklkmeoaaGreatDoor
open Go.RowKit Go

def minF (f : Int → Int → Nat) (a b : Int) : Nat := min (f a b) (f b a)
def boundOf (nets : List (Int × List Int)) (ord tr : List Int) : Nat := sumCross (minF (und nets ord tr)) (usedTo tr 64) (usedTo tr 64).length

set_option maxHeartbeats 4000000 in
set_option maxRecDepth 100000 in
/-- Bound of the reference of chapter 7. -/
theorem bBound_any (v : Value) (x : List Int × List Int) (p : Option Addr) (ca : Nat) (nets : List (Int × List Int)) (w : World) (hx : NetsV w p nets) (hv : LayV w v x) (hlens : lens nets) (htl : nets.length ≤ x.2.length) :
    Calls Tryz.prog 33 #[.slice p nets.length ca, v] w fun e w' => e = .returned (.int .i64 (boundOf nets x.1 x.2)) ∧ Below w.heap.size w w' := by
  obtain ⟨q, cb, r, cc, rfl, ho, ht, hcap, hcap2⟩ := hv
  obtain ⟨ord, tr⟩ := x
  simp only at ho ht hcap hcap2 htl ⊢
  have hund : ∀ a b, und nets ord tr a b ≤ 1000000000 := und_le hlens ord tr
  have KU := Lib.hid (fun W (a b : Int) (h : Below w.heap.size w W) => bUnder_any (.agg #[.slice q ord.length cb, .slice r tr.length cc]) (ord, tr) p ca nets a b W (hx.below h) ⟨q, cb, r, cc, rfl, ho.below h, ht.below h, hcap, hcap2⟩ hlens htl)
  have KD := Lib.hid (fun W (h : Below w.heap.size w W) => bUsed_any (.agg #[.slice q ord.length cb, .slice r tr.length cc]) (ord, tr) W ⟨q, cb, r, cc, rfl, ho.below h, ht.below h, hcap, hcap2⟩)
  simp only at KU KD
  change Hid (∀ W (a b : Int), Below w.heap.size w W → Calls Tryz.prog 62 #[.slice p nets.length ca, .agg #[.slice q ord.length cb, .slice r tr.length cc], .int .i64 a, .int .i64 b] W fun e w' => e = .returned (.int .i64 (und nets ord tr a b)) ∧ Below W.heap.size W w') at KU
  have hres : boundOf nets ord tr = sumCross (minF (und nets ord tr)) (usedTo tr 64) (usedTo tr 64).length := rfl
  have hul := usedTo_le tr 64
  generalize und nets ord tr = f at *
  generalize usedTo tr 64 = us at *
  generalize boundOf nets ord tr = res at *
  have HRes := Lib.hid hres
  have hund2 : ∀ a b, minF f a b ≤ 1000000000 := fun a b => Nat.le_trans (Nat.min_le_left _ _) (hund a b)
  have HF1 := Lib.hid hund
  have HF2 := Lib.hid hund2
  have hM : ∀ a b, minF f a b = min (f a b) (f b a) := fun a b => rfl
  have HM := Lib.hid hM
  clear hM
  generalize minF f = fm at *
  clear hx ho ht hcap hcap2 hlens htl hres hund hund2
  go_enter Tryz.func33, Tryz.ntmps33
  go_wp2_with fail
  have G0 : Below w.heap.size w (w.alloc (.cells #[.slice q ord.length cb, .slice r tr.length cc] 49)) := (Below.refl _ _).alloc (Nat.le_refl _) _
  have G1 : (w.alloc (.cells #[.slice q ord.length cb, .slice r tr.length cc] 49)).cell? ⟨w.heap.size, 0, none⟩ = some (.slice q ord.length cb) := by go_simp
  have G2 : (w.alloc (.cells #[.slice q ord.length cb, .slice r tr.length cc] 49)).cell? ⟨w.heap.size, 1, none⟩ = some (.slice r tr.length cc) := by go_simp
  have G3 : w.heap.size < (w.alloc (.cells #[.slice q ord.length cb, .slice r tr.length cc] 49)).heap.size := by simp
  generalize w.alloc (.cells #[.slice q ord.length cb, .slice r tr.length cc] 49) = W0 at *
  have HF := Lib.hid (fun W (h : Below W0.heap.size W0 W) => (⟨(h.cell (p := ⟨w.heap.size, 0, none⟩) G3).trans G1, (h.cell (p := ⟨w.heap.size, 1, none⟩) G3).trans G2⟩ : W.cell? ⟨w.heap.size, 0, none⟩ = some (.slice q ord.length cb) ∧ W.cell? ⟨w.heap.size, 1, none⟩ = some (.slice r tr.length cc)))
  have HL := Lib.hid (fun W (h : Below W0.heap.size W0 W) => G0.trans (h.mono G0.size))
  have HG0 := Lib.hid G0
  clear G0 G1 G2 G3
  refine (KD.out W0 HG0.out).mono ?_
  rintro e w1 ⟨u, rfl, ⟨pu, cu, rfl, hiu, hcu⟩, hb1⟩
  have HIU := Lib.hid hiu
  have HB1 := Lib.hid hb1
  clear hiu hb1
  go_wp2
  go_loopw [5, 7] (fun si ii wr => ∃ (i s : Nat), i ≤ us.length ∧ ii = .int .i64 i ∧ si = .int .i64 s ∧ Hid (s = sumCross fm us i) ∧ Below w1.heap.size w1 wr) (fun _ ii _ => us.length - (intOf ii).toNat)
  case atStart => exact ⟨0, 0, Nat.zero_le _, rfl, rfl, Lib.hid rfl, Below.refl _ _⟩
  case round =>
    obtain ⟨i, s, hi, rfl, rfl, hrel, hb⟩ := hrel
    have hsb : s ≤ 64 * (64 * 1000000000) := by
      rw [hrel.out]
      refine Nat.le_trans (sumCross_le HF2.out us i) ?_
      exact Nat.mul_le_mul (by omega) (Nat.mul_le_mul_right _ (by omega))
    by_cases h0 : i < us.length
    · go_wp2
      obtain ⟨wo, hwo⟩ : ∃ wo : World, wo = wr := ⟨_, rfl⟩
      rw [← hwo] at hb
      have HBo := Lib.hid hb
      rw [← hwo]
      clear hwo hb
      go_loopw [5, 8] (fun si ji wj => ∃ (k t : Nat), k ≤ i ∧ ji = .int .i64 k ∧ si = .int .i64 t ∧ Hid (t = s + rowCross fm us i k) ∧ Below w1.heap.size w1 wj) (fun _ ji _ => i - (intOf ji).toNat)
      case atStart => exact ⟨0, s, Nat.zero_le _, rfl, rfl, Lib.hid rfl, HBo.out⟩
      case round =>
        obtain ⟨k, t, hk, rfl, rfl, hrel2, hbj⟩ := hrel
        by_cases h6 : k < i
        · obtain ⟨g, o, rfl, hg, hci⟩ := (HIU.out.below hbj).at (i := i) h0
          obtain ⟨g', o', hgo, hg', hck⟩ := (HIU.out.below hbj).at (i := k) (by omega)
          injection hgo with hgo; injection hgo with e1 e2 e3
          subst e1; subst e2
          have hs2 : rowCross fm us i (k + 1) = rowCross fm us i k + fm (us.getD k 0) (us.getD i 0) := rfl
          have htb : t ≤ s + 64 * 1000000000 := by
            rw [hrel2.out]
            have := Nat.le_trans (rowCross_le HF2.out us i k) (Nat.mul_le_mul_right 1000000000 (show k ≤ 64 by omega))
            omega
          generalize us.getD k 0 = uk at *
          generalize us.getD i 0 = ui at *
          have hfb1 := HF1.out uk ui
          have hfb2 := HF1.out ui uk
          have hmin := HM.out uk ui
          have hb01 : Below W0.heap.size W0 wr := HB1.out.trans (hbj.mono HB1.out.size)
          obtain ⟨c1, c2⟩ := HF.out wr hb01
          have hbw := HL.out _ hb01
          have HBW := Lib.hid hbw
          have K := KU
          rw [hmin] at hs2
          have hmn : min (f uk ui) (f ui uk) ≤ 1000000000 := Nat.le_trans (Nat.min_le_left _ _) hfb1
          have HNew := Lib.hid (show t + min (f uk ui) (f ui uk) = s + rowCross fm us i (k + 1) by rw [hrel2.out, hs2]; omega)
          have hwrap : IntKind.i64.wrap ((t : Int) + (f uk ui : Int)) = (t : Int) + (f uk ui : Int) := IntWalk.i64_in _ (by omega)
          have hwrap2 : IntKind.i64.wrap ((t : Int) + (f ui uk : Int)) = (t : Int) + (f ui uk : Int) := IntWalk.i64_in _ (by omega)
          have hval : IntKind.i64.wrap ((t : Int) + if f ui uk < f uk ui then ((f ui uk : Nat) : Int) else ((f uk ui : Nat) : Int)) = ((t + min (f uk ui) (f ui uk) : Nat) : Int) := by
            by_cases h : f ui uk < f uk ui
            · rw [if_pos h, hwrap2, Nat.min_eq_right (by omega)]; omega
            · rw [if_neg h, hwrap, Nat.min_eq_left (by omega)]; omega
          have HWrap := Lib.hid hval
          have HBJ := Lib.hid hbj
          have hkl : k < us.length := by omega
          have HK := Lib.hid (fun W (h : Below wr.heap.size wr W) => (⟨h, (h.cell (p := ⟨w.heap.size, 0, none⟩) (World.block_lt_of_cell? wr _ c1)).trans c1, (h.cell (p := ⟨w.heap.size, 1, none⟩) (World.block_lt_of_cell? wr _ c2)).trans c2, (h.cell (p := ⟨g, o + k, none⟩) hg).trans hck, (h.cell (p := ⟨g, o + i, none⟩) hg).trans hci⟩ :
            Below wr.heap.size wr W ∧ W.cell? ⟨w.heap.size, 0, none⟩ = some (.slice q ord.length cb) ∧ W.cell? ⟨w.heap.size, 1, none⟩ = some (.slice r tr.length cc) ∧ W.cell? ⟨g, o + k, none⟩ = some (.int .i64 uk) ∧ W.cell? ⟨g, o + i, none⟩ = some (.int .i64 ui)))
          clear hs2 hval hwrap hwrap2 hbj hb01 hbw hfb1 hfb2 hmn hmin htb hsb
          go_wp2
          go_region_held3 (fun w' => Below wr.heap.size wr w' ∧ w'.cell? ⟨w.heap.size, 0, none⟩ = some (.slice q ord.length cb) ∧ w'.cell? ⟨w.heap.size, 1, none⟩ = some (.slice r tr.length cc) ∧ w'.cell? ⟨g, o + k, none⟩ = some (.int .i64 uk) ∧ w'.cell? ⟨g, o + i, none⟩ = some (.int .i64 ui))
            (first | exact HK.out _ (Below.refl _ _).drew | assumption | exact HK.out _ (Below.trans (‹Below wr.heap.size wr _ ∧ _›).1 (Below.mono (by assumption) (‹Below wr.heap.size wr _ ∧ _›).1.size)))
            (first
              | (go_at_call 62; refine (K.out _ _ _ ?_).mono ?_; (exact HBW.out.trans (Below.mono (‹Below wr.heap.size wr _ ∧ _›).1 HBW.out.size)); rintro e w1 ⟨rfl, hbo⟩))
          all_goals
            have hfin := HBJ.out.trans (Below.mono (‹Below wr.heap.size wr _ ∧ _›).1 HBJ.out.size)
            go_wp2
            go_roundw
            case rel => exact ⟨k + 1, t + min (f uk ui) (f ui uk), by omega, by go_num, by rw [HWrap.out], HNew, hfin⟩
            case measure => simp [intOf]; omega
        · obtain rfl : k = i := by omega
          have hz : t = sumCross fm us (k + 1) := by rw [hrel2.out, hrel.out]; rfl
          have HZ2 := Lib.hid hz
          clear hz hsb
          go_wp2
          go_roundw
          case rel => exact ⟨k + 1, t, by omega, by go_num, rfl, HZ2, hbj⟩
          case measure => simp [intOf]; omega
    · obtain rfl : i = us.length := by omega
      have hz : res = s := by rw [HRes.out, hrel.out]
      have HY := Lib.hid hz
      clear hz hsb
      go_wp2
      go_ret
      exact ⟨iret (by rw [HY.out]), HL.out _ (HB1.out.trans (hb.mono HB1.out.size))⟩
end Go.Proofs.YtggcnnpklkmeoaaGreatDoor
end

section
namespace Go.Proofs.YtggcnnpklkmeoaaGreatDoor
open Go.RowKit Go

theorem itake_same {xs ys : List Int} {k : Nat} (h : xs.take k = ys.take k) (h1 : k < xs.length) (h2 : k < ys.length) (he : xs.getD k 0 = ys.getD k 0) : xs.take (k + 1) = ys.take (k + 1) := by
  rw [List.take_add_one, List.take_add_one, h, List.getElem?_eq_getElem h1, List.getElem?_eq_getElem h2]
  rw [List.getD_eq_getElem?_getD, List.getD_eq_getElem?_getD, List.getElem?_eq_getElem h1, List.getElem?_eq_getElem h2] at he
  simp only [Option.getD_some] at he
  rw [he]

set_option maxHeartbeats 800000 in
/-- SameInts. -/
theorem iSame_any (p q : Option Addr) (ca cb : Nat) (xs ys : List Int) (w : World) (hx : IntV w p xs) (hy : IntV w q ys) :
    Calls Tryz.prog 36 #[.slice p xs.length ca, .slice q ys.length cb] w fun e w' => e = .returned (.bool (decide (xs = ys))) ∧ Below w.heap.size w w' := by
  have hm := hx.1
  have hm2 := hy.1
  by_cases hl : xs.length = ys.length
  · generalize hr : decide (xs = ys) = res
    have HR := Lib.hid hr
    have HL := Lib.hid hl
    rw [← hl]
    have hd : ((xs.length : Int) != (xs.length : Int)) = false := by simp
    clear hr hl hm2
    go_enter Tryz.func36, Tryz.ntmps36
    go_wp2
    go_loopw [5] (fun si wr => ∃ (k : Nat), k ≤ xs.length ∧ si = .int .i64 k ∧ Hid (xs.take k = ys.take k) ∧ ∃ nd, wr = w.drewN nd) (fun si _ => xs.length - (intOf si).toNat)
    case atStart => exact ⟨0, Nat.zero_le _, rfl, Lib.hid rfl, 0, rfl⟩
    case round =>
      obtain ⟨k, hk, rfl, hrel, nd, rfl⟩ := hrel
      by_cases h0 : k < xs.length
      · obtain ⟨ga, oa, rfl, hga, hcx⟩ := hx.at (i := k) h0
        obtain ⟨gb, ob, rfl, hgb, hcy⟩ := hy.at (i := k) (by rw [← HL.out]; exact h0)
        by_cases he : xs.getD k 0 = ys.getD k 0
        · have hnew := itake_same hrel.out h0 (by rw [← HL.out]; exact h0) he
          have HN := Lib.hid hnew
          rw [← he] at hcy
          generalize xs.getD k 0 = x at *
          clear he hnew hx hy
          have hdx : (x != x) = false := by simp
          go_wp2
          go_quiet (fail)
          go_wp2
          go_roundw
          case rel => exact ⟨k + 1, by omega, by go_num, HN, by first | exact ⟨_, rfl⟩ | exact ⟨nd + 1, rfl⟩⟩
          case measure => simp [intOf]; omega
        · have hres : res = false := by
            rw [← HR.out, decide_eq_false_iff_not]
            exact fun h => he (by rw [h])
          have hdx : (xs.getD k 0 != ys.getD k 0) = true := by rw [bne_iff_ne]; exact he
          have HS := Lib.hid hres
          generalize xs.getD k 0 = x at *
          generalize ys.getD k 0 = y at *
          clear hres hx hy he
          go_wp2
          go_quiet (fail)
          go_wp2
          go_ret
          exact ⟨bret HS.out.symm, by first | exact dn_below _ _ | exact below_drewN (dn_below _ _) _ | exact below_drewN (below_drewN (dn_below _ _) _) _⟩
      · obtain rfl : k = xs.length := by omega
        have hres : res = true := by
          rw [← HR.out, decide_eq_true_iff]
          have := hrel.out
          rw [List.take_of_length_le (Nat.le_refl _), List.take_of_length_le (by rw [HL.out]; exact Nat.le_refl _)] at this
          exact this
        have HS := Lib.hid hres
        clear hres hx hy
        go_wp2
        go_ret
        exact ⟨bret HS.out.symm, dn_below _ _⟩
  · have hne : decide (xs = ys) = false := by
      rw [decide_eq_false_iff_not]; exact fun h => hl (by rw [h])
    rw [hne]
    have hd : ((xs.length : Int) != (ys.length : Int)) = true := by rw [bne_iff_ne]; omega
    clear hne hx hy
    go_enter Tryz.func36, Tryz.ntmps36
    go_wp2
    go_ret
    exact ⟨rfl, Below.refl _ _⟩

set_option maxHeartbeats 1600000 in
/-- SameLayout of the reference of chapter 7. -/
theorem bSameLayout_any (v u : Value) (x y : List Int × List Int) (w : World) (hv : LayV w v x) (hu : LayV w u y) :
    Calls Tryz.prog 60 #[v, u] w fun e w' => e = .returned (.bool (decide (x = y))) ∧ Below w.heap.size w w' := by
  obtain ⟨q, cb, r, cc, rfl, ho, ht, hcap, hcap2⟩ := hv
  obtain ⟨q2, cb2, r2, cc2, rfl, ho2, ht2, hcap3, hcap4⟩ := hu
  obtain ⟨ord, tr⟩ := x
  obtain ⟨ord2, tr2⟩ := y
  simp only at ho ht hcap hcap2 ho2 ht2 hcap3 hcap4 ⊢
  have K1 := Lib.hid (fun W (h : Below w.heap.size w W) => iSame_any q q2 cb cb2 ord ord2 W (ho.below h) (ho2.below h))
  have K2 := Lib.hid (fun W (h : Below w.heap.size w W) => iSame_any r r2 cc cc2 tr tr2 W (ht.below h) (ht2.below h))
  have hr : decide ((ord, tr) = (ord2, tr2)) = (decide (ord = ord2) && decide (tr = tr2)) := by
    rw [Bool.eq_iff_iff]; simp
  generalize decide ((ord, tr) = (ord2, tr2)) = res at *
  generalize decide (ord = ord2) = b1 at *
  generalize decide (tr = tr2) = b2 at *
  have HR := Lib.hid hr
  clear ho ht hcap hcap2 ho2 ht2 hcap3 hcap4 hr
  have HB2 := Lib.hid (fun (o o' : Obj) => (((Below.refl _ _).alloc (Nat.le_refl _) o).alloc (by simp) o' : Below w.heap.size w ((w.alloc o).alloc o')))
  go_enter Tryz.func60, Tryz.ntmps60
  go_wp2_with fail
  have G0 : Below w.heap.size w ((w.alloc (.cells #[.slice q ord.length cb, .slice r tr.length cc] 49)).alloc (.cells #[.slice q2 ord2.length cb2, .slice r2 tr2.length cc2] 49)) := HB2.out _ _
  have G1 : ((w.alloc (.cells #[.slice q ord.length cb, .slice r tr.length cc] 49)).alloc (.cells #[.slice q2 ord2.length cb2, .slice r2 tr2.length cc2] 49)).cell? ⟨w.heap.size, 1, none⟩ = some (.slice r tr.length cc) := by go_simp
  have G2 : ((w.alloc (.cells #[.slice q ord.length cb, .slice r tr.length cc] 49)).alloc (.cells #[.slice q2 ord2.length cb2, .slice r2 tr2.length cc2] 49)).cell? ⟨w.heap.size + 1, 1, none⟩ = some (.slice r2 tr2.length cc2) := by go_simp
  have G3 : w.heap.size + 1 < ((w.alloc (.cells #[.slice q ord.length cb, .slice r tr.length cc] 49)).alloc (.cells #[.slice q2 ord2.length cb2, .slice r2 tr2.length cc2] 49)).heap.size := by simp
  generalize (w.alloc (.cells #[.slice q ord.length cb, .slice r tr.length cc] 49)).alloc (.cells #[.slice q2 ord2.length cb2, .slice r2 tr2.length cc2] 49) = W0 at *
  refine (K1.out _ G0).mono ?_
  rintro e w1 ⟨rfl, hb1⟩
  have c1 := (hb1.cell (p := ⟨w.heap.size, 1, none⟩) (show w.heap.size < _ by omega)).trans G1
  have c2 := (hb1.cell (p := ⟨w.heap.size + 1, 1, none⟩) G3).trans G2
  have hb01 := G0.trans (hb1.mono G0.size)
  have HB := Lib.hid hb01
  have HR2 := Lib.hid HR
  clear G0 G1 G2 G3 hb1 hb01
  cases b1 with
  | false =>
    have hz : res = false := by rw [HR.out]; rfl
    have HZ := Lib.hid hz
    clear hz
    go_wp2
    go_ret
    exact ⟨bret HZ.out.symm, HB.out⟩
  | true =>
    have hz : res = b2 := by rw [HR.out]; rfl
    have HZ := Lib.hid hz
    clear hz
    go_wp2_with fail
    refine (K2.out _ HB.out).mono ?_
    rintro e w2 ⟨rfl, hb2⟩
    have HC := Lib.hid (HB.out.trans (hb2.mono HB.out.size))
    clear hb2
    go_wp2
    go_ret
    exact ⟨bret HZ.out.symm, HC.out⟩

/-- Is the first list, from k on, less than the second one? -/
def lessFrom (a b : List Int) (k : Nat) : Nat → Bool
  | 0 => false
  | n + 1 => if a.getD k 0 = b.getD k 0 then lessFrom a b (k + 1) n else decide (a.getD k 0 < b.getD k 0)
def lessOf (a b : List Int) : Bool := lessFrom a b 0 a.length

end Go.Proofs.YtggcnnpklkmeoaaGreatDoor
end

