import Derived.Test.YtggcnnpklkmeoaaGreatDoorUE
section
namespace Go.Proofs.YtggcnnpklkmeoaaGreatDoor
open Go.RowKit Go

set_option maxRecDepth 100000 in
set_option maxHeartbeats 1600000 in
/-- OnesCount64 has an answer that hangs on its argument alone. -/
theorem pop_is (x : Int) : ∃ z : Int, ∀ w : World, Calls Tryz.prog 78 #[.int .u64 x] w fun e w' => e = .returned (.int .i64 z) ∧ w = w' := by
  apply Exists.intro
  case h =>
    intro w
    go_enter Tryz.func78, Tryz.ntmps78
    go_wp2
    go_ret
    exact ⟨rfl, rfl⟩

noncomputable def popOf (x : Int) : Int := (pop_is x).choose

theorem pop_any (x : Int) (w : World) : Calls Tryz.prog 78 #[.int .u64 x] w fun e w' => e = .returned (.int .i64 (popOf x)) ∧ w = w' := (pop_is x).choose_spec w

/-- taps: the closure over a box of the row. -/
theorem uTaps_any (g : Nat) (w : World) : Calls Tryz.prog 77 #[.pointer (some ⟨g, 0, none⟩)] w fun e w' => e = .returned (.func (.func 94) #[] #[.pointer (some ⟨w.heap.size, 0, none⟩)]) ∧ w' = w.alloc (.cells #[.pointer (some ⟨g, 0, none⟩)] 80) := by
  go_enter Tryz.func77, Tryz.ntmps77
  go_wp2
  go_ret
  exact ⟨rfl, rfl⟩
end Go.Proofs.YtggcnnpklkmeoaaGreatDoor
end

section
namespace Go.Proofs.YtggcnnpklkmeoaaGreatDoor
open Go.RowKit Go.Shelf Go

attribute [local go_sem] Oper.semAt_some

/-- What one tap counts. -/
noncomputable def tapVal (tk tr : List Int) (x : Int × Int) : Int := popOf (bits .and .u64 (tk.getD x.2.toNat 0) (IntKind.u64.wrap (IntKind.u64.wrap (2 ^ (tr.getD x.1.toNat 0).toNat) - 1)))
noncomputable def crossF (tk tr : List Int) (l : List (Int × Int)) : Int := l.foldl (fun s x => wrap64 (s + tapVal tk tr x)) 0

theorem crossF_snoc (tk tr : List Int) (l : List (Int × Int)) (x : Int × Int) : crossF tk tr (l ++ [x]) = wrap64 (crossF tk tr l + tapVal tk tr x) := by unfold crossF; rw [List.foldl_append]; rfl

set_option maxRecDepth 100000 in
set_option maxHeartbeats 4000000 in
/-- crossings. -/
theorem uRcrossings_any (g : Nat) (p q r : Option Addr) (ca cb cc : Nat) (nets : List (Int × List Int)) (ord tr : List Int) (w : World) (hrow : RowAt w g p q ca cb nets ord) (hx : NetsV w p nets) (ht : IntV w r tr) (htl : tr.length = nets.length) (hok : OkNets ord.length nets ord)
    (hrg : ∀ x ∈ tr, 0 ≤ x ∧ x < 64) (hl1 : nets.length ≤ 64) (hl2 : ord.length ≤ 97) :
    Calls Tryz.prog 55 #[.pointer (some ⟨g, 0, none⟩), .slice r tr.length cc] w fun e w' => e = .returned (.int .i64 (crossF (takenF (extsOf nets ord) ord.length tr nets.length) tr (tapsTo nets ord nets.length))) ∧ Below w.heap.size w w' := by
  have KT := Lib.hid (fun W (h : Below w.heap.size w W) => uTaken_any g p q r ca cb cc nets ord tr W (hrow.below h) (ht.below h) htl hok hrg hl1 hl2)
  have hS := fun (w1 : World) (Bs : Nat) (n : Nat) (hn : 1 ≤ n) (h1 : Below w.heap.size w w1) (h2 : w1.cell? ⟨Bs, 0, none⟩ = some (.pointer (some ⟨g, 0, none⟩))) => taps_stops Fence.wide n trivial rfl hn Bs g p q ca cb nets ord w w1 hrow hx hok hl1 hl2 h1 h2
  have HS := Lib.hid hS
  have HT := Lib.hid ht
  have HTl := Lib.hid htl
  have HRg := Lib.hid hrg
  generalize tapsTo nets ord nets.length = taps at *
  have hkl := takenF_len (extsOf nets ord) ord.length tr nets.length
  generalize takenF (extsOf nets ord) ord.length tr nets.length = tk at *
  have HKl := Lib.hid hkl
  clear hrow hx ht htl hok hrg hS hkl
  refine (callsIn_wide (n := 4)).1 ?_
  refine callsIn_of_wp_marks Tryz.func55 rfl trivial ?_ rfl
  simp only [Tryz.ntmps55, List.size_toArray, List.length_cons, List.length_nil, Nat.reduceAdd, Nat.reduceSub, Array.replicate_succ, Array.replicate_zero, List.push_toArray, List.append_toArray, List.nil_append, List.cons_append]
  gi_wp2_with (refine ⟨trivial, ?_⟩; gi_at_call 76; refine (callsIn_wide.2 (KT.out _ ((Below.refl _ _).alloc (Nat.le_refl _) _))).mono ?_; rintro e w1 ⟨rfl, hw1, hb1⟩)
  refine ⟨trivial, ?_⟩
  refine (callsIn_wide.2 (uTaps_any g _)).mono ?_
  rintro e w2 ⟨rfl, rfl⟩
  gi_wp2
  have hw1l := hw1.lt
  rw [World.size_alloc] at hw1 hw1l
  have hb1' : Below w.heap.size w w1 := ((Below.refl w.heap.size w).alloc (Nat.le_refl _) (.cells #[.slice r tr.length cc] 23)).trans (hb1.mono (by simp))
  have c3 : w1.cell? ⟨w.heap.size, 0, none⟩ = some (.slice r tr.length cc) := (hb1.cell (p := ⟨w.heap.size, 0, none⟩) (by simp)).trans (by simp)
  have hsz : ((((w1.alloc (.cells #[.slice (some ⟨w.heap.size + 1, 0, none⟩) ord.length ord.length] 130)).alloc (.cells #[.int .i64 0] 3)).alloc (.cells #[.pointer (some ⟨g, 0, none⟩)] 80))).heap.size = w1.heap.size + 3 := by simp
  have cS : ((((w1.alloc (.cells #[.slice (some ⟨w.heap.size + 1, 0, none⟩) ord.length ord.length] 130)).alloc (.cells #[.int .i64 0] 3)).alloc (.cells #[.pointer (some ⟨g, 0, none⟩)] 80))).cell? ⟨w1.heap.size + 1, 0, none⟩ = some (.int .i64 0) := by go_simp
  have fS : ((((w1.alloc (.cells #[.slice (some ⟨w.heap.size + 1, 0, none⟩) ord.length ord.length] 130)).alloc (.cells #[.int .i64 0] 3)).alloc (.cells #[.pointer (some ⟨g, 0, none⟩)] 80))).frozen? ⟨w1.heap.size + 1, 0, none⟩ = false := by go_simp
  have c5 : ((((w1.alloc (.cells #[.slice (some ⟨w.heap.size + 1, 0, none⟩) ord.length ord.length] 130)).alloc (.cells #[.int .i64 0] 3)).alloc (.cells #[.pointer (some ⟨g, 0, none⟩)] 80))).cell? ⟨w1.heap.size, 0, none⟩ = some (.slice (some ⟨w.heap.size + 1, 0, none⟩) ord.length ord.length) := by go_simp
  have cB : ((((w1.alloc (.cells #[.slice (some ⟨w.heap.size + 1, 0, none⟩) ord.length ord.length] 130)).alloc (.cells #[.int .i64 0] 3)).alloc (.cells #[.pointer (some ⟨g, 0, none⟩)] 80))).cell? ⟨w1.heap.size + 1 + 1, 0, none⟩ = some (.pointer (some ⟨g, 0, none⟩)) := by go_simp
  have hb3 : Below w1.heap.size w1 ((((w1.alloc (.cells #[.slice (some ⟨w.heap.size + 1, 0, none⟩) ord.length ord.length] 130)).alloc (.cells #[.int .i64 0] 3)).alloc (.cells #[.pointer (some ⟨g, 0, none⟩)] 80))) := (((Below.refl _ _).alloc (Nat.le_refl _) _).alloc (by simp) _).alloc (by simp; omega) _
  generalize ((((w1.alloc (.cells #[.slice (some ⟨w.heap.size + 1, 0, none⟩) ord.length ord.length] 130)).alloc (.cells #[.int .i64 0] 3)).alloc (.cells #[.pointer (some ⟨g, 0, none⟩)] 80))) = W3 at *
  have hW3 : Below w.heap.size w W3 := hb1'.trans (hb3.mono hb1'.size)
  have c3' := (hb3.cell (p := ⟨w.heap.size, 0, none⟩) (by show w.heap.size < _; omega)).trans c3
  have hO3 := hw1.kept hb3
  generalize w1.heap.size = s1 at *
  clear hb1 hb1' c3 hw1 hb3 KT
  refine wpIn_rangeFunc_ownG rfl (by omega) (gf := 94) (lb := #[.pointer (some ⟨s1 + 1 + 1, 0, none⟩)]) rfl trivial (enters_of Tryz.func94 (by kernel_rfl) rfl)
    (HS.out W3 (s1 + 1 + 1) _ (by omega) hW3 cB) (fun h k => ⟨h.1.trans k.1, k.2.trans h.2⟩) (fun W l o o' hl ho h1 h2 => ⟨belowK_b hW3.size W l o o' hl ho h1 h2, (belowK_b (w := W3) (Nat.le_refl _) W l o o' hl ho h1 h2).cell (p := ⟨s1 + 1 + 1, 0, none⟩) (by show s1 + 1 + 1 < _; omega)⟩) (Below.refl _ _) (fun _ => rfl)
    (fun pre W => (W.cell? ⟨s1 + 1, 0, none⟩ = some (.int .i64 (crossF tk tr (pre.map Tap.pair))) ∧ W.frozen? ⟨s1 + 1, 0, none⟩ = false) ∧ Below (s1 + 1) W3 W)
    (fun _ _ _ => False)
    (OwnFrom.and (Own.from (fun s A B row hs hg hr => ⟨cell_kept hs.1 hg hr, (frozen_kept hs.1 hg hr).trans hs.2⟩) _) (ownFrom_below (by omega) (by omega)))
    (fun _ _ _ _ _ hs _ _ => hs)
    ⟨⟨cS, fS⟩, Below.refl _ _⟩
    (fun x => { tmps := #[.pointer (some ⟨g, 0, none⟩), .slice r tr.length cc, undef, .pointer (some ⟨w.heap.size, 0, none⟩), .int .i64 0, .pointer (some ⟨s1, 0, none⟩), .pointer (some ⟨s1 + 1, 0, none⟩), .int .i64 (x.1.1 : Int), .int .i64 (x.1.2 : Int), undef, .pointer (some ⟨g, 0, none⟩), .slice r tr.length cc, .slice (some ⟨w.heap.size + 1, 0, none⟩) ord.length ord.length, .pointer (some ⟨g, 0, none⟩),
      .func (.func 94) #[] #[.pointer (some ⟨s1 + 1 + 1, 0, none⟩)], .int .i64 (x.1.1 : Int), .int .i64 (x.1.2 : Int), undef, undef, undef, undef, undef, undef, undef, undef, undef, undef, undef, undef, undef, undef, undef, undef], defers := [] }) ?assign ?body ?done ?stop
  case assign =>
    intro l x W K hK
    unfold tapEncs
    gi_wp2
    exact hK
  case body =>
    rintro l pre x W ⟨⟨hc, hf⟩, hB⟩ _
    obtain ⟨⟨ni, po⟩, hni, hpo⟩ := x
    dsimp only at hni hpo
    have hWW : Below w.heap.size w W := hW3.trans (hB.mono (by omega))
    have d3 := (hB.cell (p := ⟨w.heap.size, 0, none⟩) (by show w.heap.size < _; omega)).trans c3'
    have d5 := (hB.cell (p := ⟨s1, 0, none⟩) (by show s1 < _; omega)).trans c5
    obtain ⟨gt, ot, rfl, hgt, hct⟩ := (HT.out.below hWW).at (i := ni) (by rw [HTl.out]; exact hni)
    have hrt := HRg.out _ (getD_mem_int (l := tr) (j := ni) (by rw [HTl.out]; exact hni))
    have hct2 := (hB.cell (p := ⟨w.heap.size + 1, po, none⟩) (by show w.heap.size + 1 < _; omega)).trans (hO3.at po (by rw [HKl.out]; exact hpo))
    have hsn := crossF_snoc tk tr (pre.map Tap.pair) ((ni : Int), (po : Int))
    have htv : tapVal tk tr ((ni : Int), (po : Int)) = popOf (bits .and .u64 (tk.getD po 0) (IntKind.u64.wrap (IntKind.u64.wrap (2 ^ (tr.getD ni 0).toNat) - 1))) := by unfold tapVal; simp
    have hmap : (pre ++ [(⟨(ni, po), hni, hpo⟩ : Tap nets.length ord.length)]).map Tap.pair = pre.map Tap.pair ++ [((ni : Int), (po : Int))] := by rw [List.map_append]; rfl
    have hnt : ni < tr.length := by rw [HTl.out]; exact hni
    have HSn2 := Lib.hid (rfl : crossF tk tr (pre.map Tap.pair ++ [((ni : Int), (po : Int))]) = crossF tk tr (pre.map Tap.pair ++ [((ni : Int), (po : Int))]))
    generalize hs2 : crossF tk tr (pre.map Tap.pair ++ [((ni : Int), (po : Int))]) = s2 at hsn
    replace HSn2 := Lib.hid hs2
    clear hs2
    generalize crossF tk tr (pre.map Tap.pair) = s0 at *
    generalize tapVal tk tr ((ni : Int), (po : Int)) = tv at *
    generalize tk.getD po 0 = tp at *
    generalize tr.getD ni 0 = ti at *
    obtain ⟨t, rfl⟩ : ∃ t : Nat, ti = (t : Int) := ⟨ti.toNat, by omega⟩
    rw [show ((t : Int)).toNat = t by omega] at htv
    have HSn := Lib.hid hsn
    have HTv := Lib.hid htv
    have HMap := Lib.hid hmap
    have hmx : Tryz.prog.follows .mixedOrders = true := by kernel_rfl
    clear hsn htv hmap
    have FIN := Lib.hid (show KeepsFrom W3.heap.size W (W.setCell ⟨s1 + 1, 0, none⟩ (.int .i64 (IntKind.i64.wrap (s0 + popOf (bits .and .u64 tp (IntKind.u64.wrap (IntKind.u64.wrap (2 ^ t) - 1))))))).drew
        ∧ TapKeep w.heap.size (s1 + 1 + 1) W (W.setCell ⟨s1 + 1, 0, none⟩ (.int .i64 (IntKind.i64.wrap (s0 + popOf (bits .and .u64 tp (IntKind.u64.wrap (IntKind.u64.wrap (2 ^ t) - 1))))))).drew
        ∧ (((W.setCell ⟨s1 + 1, 0, none⟩ (.int .i64 (IntKind.i64.wrap (s0 + popOf (bits .and .u64 tp (IntKind.u64.wrap (IntKind.u64.wrap (2 ^ t) - 1))))))).drew.cell? ⟨s1 + 1, 0, none⟩ = some (.int .i64 (crossF tk tr (List.map Tap.pair (pre ++ [⟨(ni, po), hni, hpo⟩]))))
          ∧ (W.setCell ⟨s1 + 1, 0, none⟩ (.int .i64 (IntKind.i64.wrap (s0 + popOf (bits .and .u64 tp (IntKind.u64.wrap (IntKind.u64.wrap (2 ^ t) - 1))))))).drew.frozen? ⟨s1 + 1, 0, none⟩ = false)
          ∧ Below (s1 + 1) W3 (W.setCell ⟨s1 + 1, 0, none⟩ (.int .i64 (IntKind.i64.wrap (s0 + popOf (bits .and .u64 tp (IntKind.u64.wrap (IntKind.u64.wrap (2 ^ t) - 1))))))).drew) from by
      rw [HMap.out, HSn2.out, HSn.out, HTv.out]
      generalize popOf (bits .and .u64 tp (IntKind.u64.wrap (IntKind.u64.wrap (2 ^ t) - 1))) = v
      exact ⟨((KeepsOthers.setCell _ _ _).trans (KeepsOthers.drew _)).from _,
        ⟨((Below.refl _ _).setCell (by show w.heap.size ≤ s1 + 1; omega) _).drew, by go_simp⟩,
        ⟨by rw [World.cell?_drew, World.cell?_setCell_same' _ _ _ (by rw [hc]; rfl)]; simp only [IntKind.wrap_i64, wrap64], by simp [hf]⟩,
        (hB.setCell (by show s1 + 1 ≤ s1 + 1; omega) _).drew⟩)
    gi_wp2
    gi_region_with_o (refine ⟨trivial, ?_⟩; gi_at_call 78; refine (CallsIn.inRound l (callsIn_wide.2 (pop_any _ _))).mono ?_; rintro e w' ⟨rfl, rfl⟩)
    all_goals gi_wp2
    all_goals exact FIN.out
  case done =>
    rintro D ys W hD hys ⟨⟨hc, _⟩, hB⟩ hK
    have hBW : Below w.heap.size w W := hW3.trans (hB.mono (by omega))
    rw [hys] at hc
    clear hB HT HS HRg HTl HKl cS fS c5 cB c3' hO3
    gi_wp2
    refine ⟨by simp, .inl ⟨_, _, rfl, run_takeDeferred hK, ?_⟩⟩
    exact ⟨_, results_tmp rfl _ _ _, rfl, hBW.trans (belowK_b (w := W3) hW3.size W D _ _ hD hK rfl rfl)⟩
  case stop =>
    rintro D c pre W _ _ h _
    exact h.elim
end Go.Proofs.YtggcnnpklkmeoaaGreatDoor
end

