import Derived.Test.YtclhglickeoocaaGreatDoorSC
import Derived.Deep.RegionLaw
import Derived.Lib.SliceRun
section
namespace Go.Ev.Tryz
open Go.RowKit Go Go.Proofs.YtclhglickeoocaaGreatDoor

theorem flat3_rel {ρ : Ren} {g : Nat → List Value} {f : Nat → Fr} : ∀ (is : List Nat), (∀ i ∈ is, VRels ρ (g i) (cells3 f i)) → VRels ρ (is.flatMap g) (is.flatMap (cells3 f))
  | [], _ => .nil
  | i :: is, h => by
    rw [List.flatMap_cons, List.flatMap_cons]
    exact VRels.append (h i (by simp)) (flat3_rel is fun j hj => h j (by simp [hj]))

theorem orel_cells {ρ : Ren} {l : Loc} {es : ES} {c : List Value} {o' : Obj} (h : ORel ρ l (.cells es c) o') :
    ∃ c' T fr, o' = .cells ⟨c'⟩ T fr ∧ l.es = es ∧ c'.length = l.sz ∧ VRels ρ c ((c'.drop l.sh).take c.length) ∧ (es.whole = true → l.sh = 0 ∧ l.sz = c.length) := by
  cases h with
  | cells hz hs ho hf hv hT hw => exact ⟨_, _, _, rfl, rfl, hz, hv, hw⟩

set_option maxHeartbeats 1000000 in
theorem m17_ok : MemoOK env.P 42 m17 := by
  intro ρ w args' hbase hh hargs hfresh cc cs
  rw [n17] at hbase
  rw [n17, mm17] at hfresh
  rw [args17] at hargs
  -- the arguments
  obtain ⟨bx, hbx, rfl⟩ : ∃ lb : Loc, ρ 2027 = some lb ∧ args' = [.func (.func 81) #[] #[.pointer (some ⟨lb.g, lb.sh + 0, none⟩)], .func (.func 44) #[] #[]] := by
    cases hargs with
    | cons h1 h2 =>
      cases h2 with
      | cons h3 h4 =>
        cases h4
        cases h1 with
        | func _ a1 a2 =>
          cases a1
          cases a2 with
          | cons b1 b2 =>
            cases b2
            cases b1 with
            | ptr hi =>
              cases h3 with
              | func _ c1 c2 =>
                cases c1; cases c2
                exact ⟨_, hi, rfl⟩
  -- the box and the map
  obtain ⟨bx2, ob, k1, k2, k3⟩ := hh.at_ 2027 _ box17
  rw [hbx] at k1; injection k1 with k1; subst k1
  obtain ⟨lm, om, p1, p2, p3⟩ := hh.at_ 1656 _ map17
  cases p3 with
  | map hE =>
  rename_i es'
  obtain ⟨hm, hBm, hsh⟩ : w.cell? ⟨bx.g, 0, none⟩ = some (.map (some lm.g)) ∧ bx.g < w.heap.size ∧ bx.sh = 0 := by
    obtain ⟨c', T, fr, rfl, _, hz, hv, hw⟩ := orel_cells k3
    obtain ⟨w1, w2⟩ := hw rfl
    rw [w1] at hv
    have hc1 : c'.length = 1 := by rw [hz, w2]; rfl
    obtain ⟨x, rfl⟩ : ∃ x, c' = [x] := by
      match c', hc1 with
      | [x], _ => exact ⟨x, rfl⟩
    have hv' : VRels ρ [.map (some 1656)] [x] := hv
    cases hv' with
    | cons hx _ =>
      cases hx with
      | map hi =>
        rw [p1] at hi; injection hi with hi; subst hi
        exact ⟨by simp [World.cell?, k2], (Array.getElem?_eq_some_iff.1 k2).1, w1⟩
  rw [hsh]
  -- the elements
  have hsel : ∀ i, ∃ f : Fr, i < 7 → ∃ e', es'[ordL.getD i 0]? = some e' ∧ e'.val = .agg #[.bool f.s, .slice f.p f.m f.k, .slice f.q f.d f.e] ∧ VRel (low ρ) (vr i) (.agg #[.bool f.s, .slice f.p f.m f.k, .slice f.q f.d f.e]) := by
    intro i
    by_cases hi : i < 7
    · have ho := ord_lt i hi
      obtain ⟨e, he⟩ : ∃ e, es17[ordL.getD i 0]? = some e := ⟨es17[ordL.getD i 0]'(by rw [len17]; exact ho), by simp⟩
      obtain ⟨e', he', hr⟩ := ERels.get hE he
      have hvr : vr i = e.val := by
        unfold vr
        rw [List.getD_eq_getElem?_getD (l := es17.map (·.val)), List.getElem?_map, he]; rfl
      have hs := shp17
      rw [List.all_eq_true] at hs
      have hs1 := hs i (List.mem_range.2 hi)
      rw [hvr] at hs1 ⊢
      obtain ⟨f, q1, q2⟩ := shp_rel (low_eq ρ) hr.val hs1
      rw [q1] at q2
      exact ⟨f, fun _ => ⟨e', he', q1, q2⟩⟩
    · exact ⟨⟨false, none, 0, 0, none, 0, 0⟩, fun h => absurd h hi⟩
  obtain ⟨f, hf⟩ := Classical.axiomOfChoice hsel
  have hlen : es'.length = 7 := by
    have := congrArg List.length (ERels.borns hE)
    simpa [len17] using this
  have hS : SevMap (fun i => .agg #[.bool (f (rk i)).s, .slice (f (rk i)).p (f (rk i)).m (f (rk i)).k, .slice (f (rk i)).q (f (rk i)).d (f (rk i)).e]) ⟨es'⟩ 7 := by
    refine ⟨(ERels.borns hE).trans born17, fun e he => ?_⟩
    obtain ⟨k, hk, rfl⟩ := List.getElem_of_mem he
    have hk7 : k < 7 := by rw [← hlen]; exact hk
    have hb : (es'[k]).born = k := by
      have h1 : (es'.map (·.born))[k]? = some k := by rw [ERels.borns hE, born17, List.getElem?_range hk7]
      rw [List.getElem?_map, List.getElem?_eq_getElem hk] at h1
      simpa using h1
    rw [hb]
    obtain ⟨r1, r2⟩ := rk_ord k hk7
    obtain ⟨e', q1, q2, _⟩ := hf (rk k) r1
    rw [r2, List.getElem?_eq_getElem hk] at q1
    injection q1 with q1
    rw [q1]; exact q2
  -- the rows
  have hG : HRel (low ρ) (memOf rowsF) w := by
    refine ⟨fun i o ho => ?_, fun i j li lj h1 h2 h3 h4 h5 => ?_⟩
    · obtain ⟨l, o', q1, q2, q3⟩ := hh.at_ i o (row_in ho).1
      obtain ⟨hi, es, c, rfl, hc⟩ := rows_facts ho
      exact ⟨l, o', by rw [low_eq ρ i hi]; exact q1, q2, flatRow_rel hc q3⟩
    · obtain ⟨oi, hoi⟩ := Option.ne_none_iff_exists'.1 h1
      obtain ⟨oj, hoj⟩ := Option.ne_none_iff_exists'.1 h2
      exact hh.inj i j li lj (by rw [(row_in hoi).1]; simp) (by rw [(row_in hoj).1]; simp) (by rw [← low_eq ρ i (rows_facts hoi).1]; exact h3) (by rw [← low_eq ρ j (rows_facts hoj).1]; exact h4) h5
  have hN : ∀ g, Named (low ρ) (memOf rowsF) g → g < w.heap.size := by
    rintro g ⟨i, l, h1, h2, rfl⟩
    obtain ⟨o, ho⟩ := Option.ne_none_iff_exists'.1 h1
    obtain ⟨l2, o', q1, q2, _⟩ := hG.at_ i o ho
    rw [h2] at q1; injection q1 with q1; subst q1
    exact (Array.getElem?_eq_some_iff.1 q2).1
  have hNN : ∀ g, Named (low ρ) (memOf rowsF) g → Named ρ (memOf m17.F) g := by
    rintro g ⟨i, l, h1, h2, h3⟩
    obtain ⟨o, ho⟩ := Option.ne_none_iff_exists'.1 h1
    exact ⟨i, l, by rw [(row_in ho).1]; simp, by rw [← low_eq ρ i (rows_facts ho).1]; exact h2, h3⟩
  have hcall := sortedFunc7 f cmpN cmpN_lt (Named (low ρ) (memOf rowsF)) (fun W => HRel (low ρ) (memOf rowsF) W) (cmpG ρ hbase f (fun i hi => by obtain ⟨_, _, _, h⟩ := hf i hi; exact h)) bx.g lm.g 7 ⟨es'⟩ rk (fun i hi => (rk_ord i hi).1)
    (fun i j hi hj e => by rw [← (rk_ord i hi).2, ← (rk_ord j hj).2, e]) hS (Nat.le_refl _) w hBm hm p2 hN hG
  obtain ⟨e, w', fr, ⟨g, cap, rest, rfl, q1, q2, q3, q4, q5, q6⟩, s1, _, s2⟩ := hcall (cc :: cs)
  have hst : Steps env.P (lone (Frame.enter env.P 42 ⟨[.func (.func 81) #[] #[.pointer (some ⟨bx.g, 0 + 0, none⟩)], .func (.func 44) #[] #[]]⟩ .normal) (cc :: cs) w) (lone (cc.finish (.slice (some ⟨g, 0, none⟩) 7 cap)) cs w') := Steps.trans s1 (.one (step_leave_returned s2))
  let ln : Loc := ⟨g, 0, cap * 3, ⟨3, some 69, false⟩⟩
  let ρ' : Ren := fun i => if i = 2028 then some ln else ρ i
  have hnew : ρ' 2028 = some ln := if_pos rfl
  have hold : ∀ i, i ≠ 2028 → ρ' i = ρ i := fun i h => if_neg h
  have hn0 : ρ 2028 = none := hfresh 2028 (Nat.le_refl _) (by omega)
  have hgrow : Grows ρ ρ' := fun i l h => by
    by_cases e : i = 2028
    · subst e; rw [hn0] at h; cases h
    · rw [hold i e]; exact h
  have hlow : Grows (low ρ) ρ' := fun i l h => by
    unfold low at h
    split at h
    · exact hgrow i l h
    · cases h
  -- what an old name holds now
  have hat : ∀ i o, memOf m17.F i = some o → ∃ l o', ρ i = some l ∧ w'.heap[l.g]? = some o' ∧ ORel ρ' l o o' ∧ l.g < w.heap.size := by
    intro i o ho
    obtain ⟨hi, hk⟩ := name17 ho
    obtain ⟨l, o', r1, r2, r3⟩ := hh.at_ i o ho
    have hlt := (Array.getElem?_eq_some_iff.1 r2).1
    by_cases hr : memOf rowsF i = some o
    · obtain ⟨l2, o2, t1, t2, t3⟩ := q4.at_ i o hr
      rw [low_eq ρ i hi, r1] at t1; injection t1 with t1; subst t1
      exact ⟨l, o2, r1, t2, t3.mono hlow, hlt⟩
    · have hnm : ¬ Named (low ρ) (memOf rowsF) l.g := by
        rintro ⟨j, lj, h1, h2, h3⟩
        obtain ⟨oj, hoj⟩ := Option.ne_none_iff_exists'.1 h1
        obtain ⟨c1, c2, c3⟩ := row_in hoj
        have hij := hh.inj i j l lj (by rw [ho]; simp) (by rw [c1]; simp) r1 (by rw [← low_eq ρ j (rows_facts hoj).1]; exact h2) h3.symm
        subst hij
        rw [ho] at c1; injection c1 with c1; subst c1
        exact hr hoj
      exact ⟨l, o', r1, (q6.block l.g hlt hnm).trans r2, r3.mono hgrow, hlt⟩
  have hrow : ORel ρ' ln (.cells ⟨3, some 69, false⟩ row17) (.cells ⟨(List.range 7).flatMap (cells3 f) ++ rest⟩ 69 (0, 0)) := by
    have hlenc : ((List.range 7).flatMap (cells3 f)).length = 21 := rfl
    refine ORel.cells (l := ln) ?_ ?_ ones17 (fun k _ h => by omega) ?_ (fun t ht => ?_) (fun h => by cases h)
    · rw [List.length_append, hlenc, q3]; show _ = cap * 3; omega
    · rw [lenRow17]; show 0 + 21 ≤ cap * 3; omega
    · show VRels ρ' row17 ((((List.range 7).flatMap (cells3 f) ++ rest).drop 0).take row17.length)
      rw [List.drop_zero, lenRow17, ← hlenc, List.take_left']
      · refine flat3_rel (List.range 7) fun i hi => ?_
        obtain ⟨_, _, _, hv⟩ := hf i (List.mem_range.1 hi)
        exact (hv.mono hlow).cells
      · rfl
    · injection ht with ht; subst ht; exact ⟨rfl, rfl⟩
  refine ⟨ρ', w', .slice (some ⟨g, 0, none⟩) 7 cap, ⟨by rw [n17, mm17]; omega, fun i hi => ?_, ⟨fun i o ho => ?_, fun i j li lj h1 h2 h3 h4 h5 => ?_⟩, q6.os, q6.tape, q6.output, q6.size, fun g' hg' hn => ?_, fun g' hg' => ?_⟩, ?_, hst⟩
  · rw [n17, mm17] at hi
    exact hold i (by omega)
  · rw [keep_get] at ho
    by_cases e : i = 2028
    · subst e
      rw [if_pos rfl] at ho
      injection ho with ho; subst ho
      exact ⟨ln, _, hnew, q5, hrow⟩
    · rw [if_neg e] at ho
      obtain ⟨l, o', r1, r2, r3, _⟩ := hat i o ho
      exact ⟨l, o', by rw [hold i e]; exact r1, r2, r3⟩
  · rw [keep_get] at h1 h2
    by_cases e1 : i = 2028
    · by_cases e2 : j = 2028
      · rw [e1, e2]
      · rw [if_neg e2] at h2
        obtain ⟨oj, hoj⟩ := Option.ne_none_iff_exists'.1 h2
        obtain ⟨l, o', r1, r2, r3, r4⟩ := hat j oj hoj
        rw [hold j e2, r1] at h4; injection h4 with h4; subst h4
        rw [e1, hnew] at h3; injection h3 with h3; subst h3
        have : g = l.g := h5
        omega
    · rw [if_neg e1] at h1
      obtain ⟨oi, hoi⟩ := Option.ne_none_iff_exists'.1 h1
      obtain ⟨l, o', r1, r2, r3, r4⟩ := hat i oi hoi
      by_cases e2 : j = 2028
      · rw [hold i e1, r1] at h3; injection h3 with h3; subst h3
        rw [e2, hnew] at h4; injection h4 with h4; subst h4
        have : l.g = g := h5
        omega
      · rw [if_neg e2] at h2
        rw [hold i e1] at h3; rw [hold j e2] at h4
        exact hh.inj i j li lj h1 h2 h3 h4 h5
  · exact q6.block g' hg' fun h => hn (hNN g' h)
  · obtain ⟨i, l, h1, h2, h3⟩ := hg'
    rw [keep_get] at h1
    by_cases e : i = 2028
    · subst e
      rw [hnew] at h2; injection h2 with h2; subst h2
      left; have : g = g' := h3; omega
    · rw [if_neg e] at h1
      right
      exact ⟨i, l, h1, by rw [← hold i e]; exact h2, h3⟩
  · rw [v17]
    exact VRel.slice (l := ln) (o := 0) (o' := 0) hnew q2 (by show 0 + cap * 3 ≤ cap * 3; omega) (.inr rfl) (.inl rfl)
end Go.Ev.Tryz
end

section
/- slices.Delete of the first of two integers. -/
namespace Go.Proofs.YtclhglickeoocaaGreatDoor
open Go.RowKit Go.Lib Go

theorem info3 : (Tryz.prog.info? 3).map (fun i => (i.zero, i.size, i.bytes)) = some (some (.int .i64 0), 1, 8) := by kernel_rfl

set_option maxRecDepth 100000 in
set_option maxHeartbeats 1000000 in
theorem del33 (b o c : Nat) (w : World) (hc : 2 ≤ c) (h0 : w.cell? ⟨b, o, none⟩ = some (.int .i64 30)) (h1 : w.cell? ⟨b, o + 1, none⟩ = some (.int .i64 50)) (f0 : w.frozen? ⟨b, o, none⟩ = false) (f1 : w.frozen? ⟨b, o + 1, none⟩ = false) :
    Calls Tryz.prog 33 #[.slice (some ⟨b, o, none⟩) 2 c, .int .i64 0, .int .i64 1] w fun e w' => e = .returned (.slice (some ⟨b, o, none⟩) 1 c) ∧ w' = (w.drew.setCells b o [.int .i64 50]).setCells b (o + 1) [.int .i64 0] := by
  obtain ⟨i0, hi0, hz0, hz1, hz2⟩ := info_parts info3
  obtain ⟨W1, hW1⟩ : ∃ W1, W1 = w.drew.setCells b (o + 0 * 1) [.int .i64 50] := ⟨_, rfl⟩
  have hcl : ∀ ty, (Builtin.clear_ #[58] ty #[.slice (some ⟨b, o + 1, none⟩) 1 (c - 1)]).run Tryz.prog W1 = .ok (.tuple #[]) (W1.setCells b (o + 1) (List.replicate 1 (.int .i64 0))) := fun ty =>
    Lib.run_clear_slice W1 _ _ ty _ Tryz.underlying58 Tryz.zeroValue3 rfl rfl b (o + 1) _ _ (by omega)
      (fun t ht => by
        obtain rfl : t = 0 := by omega
        rw [hW1, Nat.add_zero, World.cell?_setCells_out _ _ _ _ _ (fun _ _ => .inr (by simp))]
        show (w.cell? _).isSome = true
        rw [h1]; rfl)
      (fun t ht => by
        obtain rfl : t = 0 := by omega
        rw [hW1, Nat.add_zero, World.frozen?_setCells]; exact f1)
  have s3 : Hid (∀ t, t < [(.int .i64 50 : Value)].length → (w.drew.cell? ⟨b, o + 0 * 1 + t, none⟩).isSome = true ∧ w.drew.frozen? ⟨b, o + 0 * 1 + t, none⟩ = false) := by
    intro t ht
    obtain rfl : t = 0 := by simpa using ht
    exact ⟨by show (w.cell? ⟨b, o + 0 * 1 + 0, none⟩).isSome = true; rw [show o + 0 * 1 + 0 = o by omega, h0]; rfl, by show w.frozen? ⟨b, o + 0 * 1 + 0, none⟩ = false; rw [show o + 0 * 1 + 0 = o by omega]; exact f0⟩
  have hA : (if c = 1 then some (⟨b, o, none⟩ : Addr) else some ⟨b, o + 1, none⟩) = some ⟨b, o + 1, none⟩ := if_neg (by omega)
  have hsrc : Hid (∀ t u, [(.int .i64 50 : Value)][t]? = some u → w.drew.cell? ((⟨b, o + 1, none⟩ : Addr).add t) = some u) := by
    intro t u hu
    match t, hu with
    | 0, hu => simp at hu; subst hu; exact h1
  have X : Hid (W1 = w.drew.setCells b o [.int .i64 50]) := by rw [hW1, Nat.zero_mul, Nat.add_zero]; exact (show _ = _ from rfl)
  have hW : Hid (W1 = w.drew.setCells b (o + 0 * 1) [.int .i64 50]) := hW1
  clear hW1 h0 h1 f0 f1
  go_enter Tryz.func33, Tryz.ntmps33
  go_wp2_with fail
  go_region_law (refine step_append_room rfl (.tmp 22) (.tmp 25) 58 rfl 3 i0 1 Tryz.underlying58 hi0 hz1 b o 0 c (by simp [Act.eval, Act.put]) ⟨b, o + 1, none⟩ 1 (c - 1) [.int .i64 50] (by first | (simp [Act.eval, Act.put]; done) | (simp [Act.eval, Act.put]; exact hA)) rfl hsrc.out (by simp [Value.oneCell']) (by omega) s3.out ?_; rw [← hW.out])
  go_wp2
  go_ret
  exact ⟨rfl, by rw [← X.out]⟩
end Go.Proofs.YtclhglickeoocaaGreatDoor
namespace Go.Ev.Tryz
open Go.RowKit Go Go.Proofs.YtclhglickeoocaaGreatDoor

theorem ones2 (a : Value) (h : one a = true) : ones [a] = true := by simp [ones, h]

theorem size_sc (w : World) (g o : Nat) (a b : Value) : ((w.drew.setCell ⟨g, o, none⟩ a).setCell ⟨g, o + 1, none⟩ b).heap.size = w.heap.size := by
  simp [World.setCell]

theorem mem_one {i : Nat} {o : Option RO} (h : i < big) (j : Nat) : memOf [(i, o)] j = if j = i then o else none := by
  show getR (putR .e i o) j = _
  rw [getR_putR _ _ _ h]; rfl

set_option maxHeartbeats 1000000 in
theorem m2_ok : MemoOK env.P 33 m2 := by
  intro ρ w args' hbase hh hargs hfresh cc cs
  have hn0 : ρ 234 = none := hfresh 234 (Nat.le_refl _) (by decide)
  obtain ⟨l, o', k1, k2, k3⟩ := hh.at_ 229 (.cells ⟨1, some 3, false⟩ [.int .i64 30, .int .i64 50]) (by show memOf [(229, _)] 229 = _; rw [mem_one (by decide), if_pos rfl])
  -- the arguments
  obtain ⟨c, hcap, rfl⟩ : ∃ c, (2 ≤ c ∧ l.sh + c * l.es.n ≤ l.sz) ∧ args' = [.slice (some ⟨l.g, l.sh, none⟩) 2 c, .int .i64 0, .int .i64 1] := by
    cases hargs with
    | cons h1 h2 =>
      cases h2 with
      | cons h3 h4 =>
        cases h4 with
        | cons h5 h6 =>
          cases h6; cases h3; cases h5
          cases h1 with
          | slice hl hn hc ho hr =>
            rw [k1] at hl; injection hl with hl; subst hl
            have ho' := ho.resolve_left (by decide)
            rw [Nat.add_zero] at ho'
            subst ho'
            exact ⟨_, ⟨hn, hc⟩, rfl⟩
  obtain ⟨hc2, hcz⟩ := hcap
  obtain ⟨lg, lsh, lsz, les⟩ := l
  cases k3 with
  | cells hz hs ho hf hv hT hw =>
  rename_i c' T fr
  have hs' : lsh + 2 ≤ lsz := hs
  -- the two cells
  have hlz : c'.length = lsz := hz
  obtain ⟨e0, e1⟩ : c'[lsh]? = some (.int .i64 30) ∧ c'[lsh + 1]? = some (.int .i64 50) := by
    have hv' : VRels ρ [.int .i64 30, .int .i64 50] ((c'.drop lsh).take 2) := hv
    obtain ⟨v0, q0, r0⟩ := VRels.get hv' (i := 0) (v := .int .i64 30) rfl
    obtain ⟨v1, q1, r1⟩ := VRels.get hv' (i := 1) (v := .int .i64 50) rfl
    cases r0; cases r1
    refine ⟨?_, ?_⟩
    · simpa [List.getElem?_take, List.getElem?_drop] using q0
    · simpa [List.getElem?_take, List.getElem?_drop] using q1
  have hfz : ∀ k, k < lsz → w.frozen? ⟨lg, k, none⟩ = false := by
    intro k hk
    have := hf k hk
    simp only [World.frozen?, k2]
    simp; omega
  obtain ⟨e, w', fr2, ⟨rfl, hw'⟩, s1, _, s2⟩ := del33 lg lsh c w hc2 (by simp [World.cell?, k2, e0]) (by simp [World.cell?, k2, e1]) (hfz _ (by omega)) (hfz _ (by omega)) (cc :: cs)
  have hw2 : w' = (w.drew.setCell ⟨lg, lsh, none⟩ (.int .i64 50)).setCell ⟨lg, lsh + 1, none⟩ (.int .i64 0) := hw'
  have hch : Changed w w' lg (.cells ⟨(c'.set lsh (.int .i64 50)).set (lsh + 1) (.int .i64 0)⟩ T fr) := by
    rw [hw2]
    refine ⟨rfl, rfl, rfl, size_sc w lg lsh _ _, heap_setCell (heap_setCell k2 _ _) _ _, fun g' hg => ?_⟩
    rw [heap_setCell_other hg, heap_setCell_other hg]; rfl
  let l' : Loc := ⟨lg, lsh, lsz, ⟨1, some 3, false⟩⟩
  have hr : ORel (more ρ 234 l') l' (.cells ⟨1, some 3, false⟩ [.int .i64 50]) (.cells ⟨(c'.set lsh (.int .i64 50)).set (lsh + 1) (.int .i64 0)⟩ T fr) := by
    refine ORel.cells (l := l') (by simpa using hlz) (by show lsh + 1 ≤ lsz; omega) rfl hf ?_ hT (fun h => by cases h)
    have : (((c'.set lsh (.int .i64 50)).set (lsh + 1) (.int .i64 0)).drop lsh).take 1 = [.int .i64 50] := by
      apply List.ext_getElem?
      intro k
      rw [List.getElem?_take, List.getElem?_drop]
      by_cases hk : k = 0
      · subst hk
        rw [if_pos (by decide)]
        show ((c'.set lsh (.int .i64 50)).set (lsh + 1) (.int .i64 0))[lsh]? = some (.int .i64 50)
        rw [List.getElem?_set_ne (by omega), List.getElem?_set_self (by omega)]
      · rw [if_neg (by omega)]
        cases k with
        | zero => exact absurd rfl hk
        | succ k => rfl
    show VRels _ [.int .i64 50] ((((c'.set lsh (.int .i64 50)).set (lsh + 1) (.int .i64 0)).drop lsh).take 1)
    rw [this]
    exact .cons (.int _ _) .nil
  refine ⟨more ρ 234 l', w', .slice (some ⟨lg, lsh, none⟩) 1 c, goes_move hh (l := ⟨lg, lsh, lsz, ⟨1, some 3, false⟩⟩) (l' := l') (i := 229) (by show memOf [(229, _)] 229 ≠ none; rw [mem_one (by decide), if_pos rfl]; simp) k1 hn0 rfl _ _ (fun j => ?_) hch hr, ?_, Steps.trans s1 (.one (step_leave_returned s2))⟩
  · show memOf [(234, some (.cells ⟨1, some 3, false⟩ [.int .i64 50]))] j = if j = 234 then some (.cells ⟨1, some 3, false⟩ [.int .i64 50]) else if j = 229 then none else memOf [(229, some (.cells ⟨1, some 3, false⟩ [.int .i64 30, .int .i64 50]))] j
    rw [mem_one (by decide), mem_one (by decide)]
    by_cases e : j = 234
    · rw [if_pos e, if_pos e]
    · rw [if_neg e, if_neg e]
      by_cases e2 : j = 229
      · rw [if_pos e2]
      · rw [if_neg e2, if_neg e2]
  · exact VRel.slice (l := l') (o := 0) (more_same _ _ _) (by omega) hcz (.inr rfl) (.inl rfl)
end Go.Ev.Tryz
end

