import Derived.Test.YtggcnnpklkmeoaaGreatDoorUA
import Derived.Deep.WholeRow
section
namespace Go.Proofs.YtggcnnpklkmeoaaGreatDoor
open Go.RowKit Go

theorem pairInfo : (Tryz.prog.info? 40).map (fun i => (i.zero, i.size, i.bytes)) = some (some (.agg #[.int .i64 0, .int .i64 0]), 2, 16) := by kernel_rfl
theorem rowInfo : (Tryz.prog.info? 85).map (·.size) = some 100 := by kernel_rfl

/-! The cells of pairs in a row. -/
def pcells : List (Int × Int) → List Value
  | [] => []
  | e :: r => .int .i64 e.1 :: .int .i64 e.2 :: pcells r

theorem pcells_len : ∀ es : List (Int × Int), (pcells es).length = es.length * 2
  | [] => rfl
  | e :: r => by simp only [pcells, List.length_cons, pcells_len r]; omega

theorem pcells_fst : ∀ {es : List (Int × Int)} {i : Nat}, i < es.length → (pcells es)[i * 2]? = some (.int .i64 (es.getD i (0, 0)).1)
  | [], i, h => by simp at h
  | e :: r, 0, _ => rfl
  | e :: r, i + 1, h => by
    rw [show (i + 1) * 2 = i * 2 + 1 + 1 by omega]
    exact pcells_fst (es := r) (i := i) (by simpa using h)

theorem pcells_snd : ∀ {es : List (Int × Int)} {i : Nat}, i < es.length → (pcells es)[i * 2 + 1]? = some (.int .i64 (es.getD i (0, 0)).2)
  | [], i, h => by simp at h
  | e :: r, 0, _ => rfl
  | e :: r, i + 1, h => by
    rw [show (i + 1) * 2 + 1 = i * 2 + 1 + 1 + 1 by omega]
    exact pcells_snd (es := r) (i := i) (by simpa using h)

theorem pcells_set : ∀ (es : List (Int × Int)) (i : Nat) (e : Int × Int), ((pcells es).set (i * 2) (.int .i64 e.1)).set (i * 2 + 1) (.int .i64 e.2) = pcells (es.set i e)
  | [], i, e => by simp [pcells]
  | x :: r, 0, e => rfl
  | x :: r, i + 1, e => by
    rw [show (i + 1) * 2 = i * 2 + 1 + 1 by omega]
    show _ :: _ :: ((pcells r).set (i * 2) _).set (i * 2 + 1) _ = _ :: _ :: pcells (r.set i e)
    rw [pcells_set r i e]

theorem pcells_zero : ∀ n : Nat, pcells (List.replicate n (0, 0)) = List.replicate (n * 2) (Value.int .i64 0)
  | 0 => rfl
  | n + 1 => by
    rw [show (n + 1) * 2 = n * 2 + 1 + 1 by omega, List.replicate_succ, List.replicate_succ, List.replicate_succ, ← pcells_zero n]; rfl

theorem madePairs (n : Nat) : (madeCells #[Value.int .i64 0, Value.int .i64 0] (n * 2)).toList = pcells (List.replicate n (0, 0)) := by
  rw [pcells_zero, List.eq_replicate_iff]
  refine ⟨by simp [madeCells], ?_⟩
  intro b hb
  rw [Array.mem_toList_iff] at hb
  unfold madeCells at hb
  rw [Array.mem_map] at hb
  obtain ⟨k, _, rfl⟩ := hb
  have : k % 2 = 0 ∨ k % 2 = 1 := by omega
  rcases this with h | h
  · show (#[Value.int .i64 0, Value.int .i64 0] : Array Value)[k % 2]! = _
    rw [h]; rfl
  · show (#[Value.int .i64 0, Value.int .i64 0] : Array Value)[k % 2]! = _
    rw [h]; rfl

/-- A row of pairs that is owned whole is a box. -/
theorem box_pairs {w : World} {base g n : Nat} {xs : List Value} (h : w.ownsRow base 40 2 (.slice (some ⟨g, 0, none⟩) n n) n xs) : BoxAt w g 40 xs := by
  obtain ⟨h1, h2⟩ := h
  rcases h2 with ⟨h2, _⟩ | ⟨g2, cap, cur, h2, _, h3, _, _, h4, h5⟩
  · cases h2
  · injection h2 with e1 e2 e3
    injection e1 with e1
    injection e1 with e1 _ _
    subst e1; subst e3
    unfold BoxAt
    rw [h3, ← h5, List.take_of_length_le (by rw [Array.length_toList]; omega), Array.toArray_toList]

theorem pairs_of_box {w : World} {g : Nat} {es : List (Int × Int)} (h : BoxAt w g 40 (pcells es)) (hl : es.length ≤ 1099511627776) : PairsV w (some ⟨g, 0, none⟩) es :=
  ⟨hl, .inr ⟨g, 0, rfl, h.lt, fun i hi => by
    rw [Nat.zero_add, h.cell, h.cell]
    exact ⟨pcells_fst hi, pcells_snd hi⟩⟩⟩

/-! The cells of a row of columns. -/
def rowCells (vn vo : Value) (ps : List Int) (ve : Value) : List Value := vn :: vo :: (ps.map (Value.int .i64) ++ [ve])

theorem rowCells_pos {vn vo ve : Value} {ps : List Int} {c : Nat} (h : c < ps.length) : (rowCells vn vo ps ve)[2 + c]? = some (.int .i64 (ps.getD c 0)) := by
  rw [show 2 + c = c + 1 + 1 by omega]
  show (ps.map (Value.int .i64) ++ [ve])[c]? = _
  rw [List.getElem?_append_left (by simpa using h), List.getElem?_map, List.getElem?_eq_getElem h, List.getD_eq_getElem?_getD, List.getElem?_eq_getElem h]; rfl

theorem rowCells_ext {vn vo ve : Value} {ps : List Int} (h : ps.length = 97) : (rowCells vn vo ps ve)[99]? = some ve := by
  show (ps.map (Value.int .i64) ++ [ve])[97]? = _
  rw [List.getElem?_append_right (by simp [h]), List.length_map, h]; rfl

theorem rowCells_set {vn vo ve : Value} {ps : List Int} {c : Nat} (h : c < ps.length) (x : Int) : (rowCells vn vo ps ve).set (2 + c) (.int .i64 x) = rowCells vn vo (ps.set c x) ve := by
  rw [show 2 + c = c + 1 + 1 by omega]
  show vn :: vo :: (ps.map (Value.int .i64) ++ [ve]).set c _ = _
  rw [List.set_append_left _ _ (by simpa using h), ← List.map_set]; rfl

theorem pos_next {n : Nat} {ord ps : List Int} (ho : OkOrd n ord) (hn : n ≤ 97) (hp : ps.length = 97) {k : Nat} (hk : k < ord.length) {c : Nat} (hc : ord.getD k 0 = (c : Int))
    (h : ∀ d : Nat, (d : Int) ∈ ord.take k → ps.getD d 0 = posOf d ord) : ∀ d : Nat, (d : Int) ∈ ord.take (k + 1) → (ps.set c (k : Int)).getD d 0 = posOf d ord := by
  intro d hd
  have hr := ho.rng _ (getD_mem_int hk)
  have hposk : posOf (c : Int) ord = (k : Int) := by
    have h1 := posFrom_get (i := 0) (x := (c : Int)) (l := ord) (by rw [← hc]; exact getD_mem_int hk)
    have h2 := posOf_in (x := (c : Int)) (l := ord) (by rw [← hc]; exact getD_mem_int hk)
    unfold posOf at h2 ⊢
    have := getD_inj ho.nod (i := (posFrom (c : Int) ord 0 - (0 : Nat)).toNat) (j := k) (by omega) hk (by rw [h1, hc])
    omega
  by_cases e : d = c
  · subst e
    rw [List.getD_eq_getElem?_getD, List.getElem?_set_self (by omega), hposk]; rfl
  · rw [List.getD_eq_getElem?_getD, List.getElem?_set_ne (by omega), ← List.getD_eq_getElem?_getD]
    rw [take_mem hk, hc] at hd
    rcases hd with hd | hd
    · exact h d hd
    · omega

theorem take_next {α : Type} {es xs : List α} {k : Nat} {e : α} (hl : es.length = xs.length) (h : es.take k = xs.take k) (he : xs[k]? = some e) : (es.set k e).take (k + 1) = xs.take (k + 1) := by
  have hk : k < xs.length := by
    by_cases h2 : k < xs.length
    · exact h2
    · rw [List.getElem?_eq_none (by omega)] at he; cases he
  refine List.ext_getElem? fun i => ?_
  rw [List.getElem?_take, List.getElem?_take]
  split
  · by_cases e2 : i = k
    · subst e2
      rw [List.getElem?_set_self (by omega), he]
    · rw [List.getElem?_set_ne (by omega)]
      have := congrArg (·[i]?) h
      simp only [List.getElem?_take] at this
      rwa [if_pos (by omega), if_pos (by omega)] at this
  · rfl

theorem extsOf_at (nets : List (Int × List Int)) (ord : List Int) {i : Nat} (hi : i < nets.length) : (extsOf nets ord)[i]? = some (extOf ord (nets.getD i (0, [])).2) := by
  unfold extsOf
  rw [List.getElem?_map, List.getD_eq_getElem?_getD, List.getElem?_eq_getElem hi]; rfl

set_option maxHeartbeats 4000000 in
set_option maxRecDepth 100000 in
/-- newRow. -/
theorem uNewRow_any (p q : Option Addr) (ca cb : Nat) (nets : List (Int × List Int)) (ord : List Int) (n : Nat) (w : World) (hx : NetsV w p nets) (ho : IntV w q ord) (hok : OkNets n nets ord) (hn : n ≤ 97) (hl : nets.length ≤ 64) :
    Calls Tryz.prog 74 #[.slice p nets.length ca, .slice q ord.length cb] w fun e w' => ∃ g h ps, e = .returned (.pointer (some ⟨g, 0, none⟩)) ∧ BoxAt w' g 85 (rowCells (.slice p nets.length ca) (.slice q ord.length cb) ps (.slice (some ⟨h, 0, none⟩) nets.length nets.length)) ∧
      ps.length = 97 ∧ (∀ c : Nat, c < n → ps.getD c 0 = posOf c ord) ∧ BoxAt w' h 40 (pcells (extsOf nets ord)) ∧ Below w.heap.size w w' := by
  obtain ⟨i0, hInfo, hz0, hz1, hz2⟩ := info_parts pairInfo
  have HX := Lib.hid hx
  have HO := Lib.hid ho
  have HOk := Lib.hid hok
  clear hx ho hok
  go_enter Tryz.func74, Tryz.ntmps74
  go_wp2_with (at_make; refine wpList_make_full _ rfl _ _ 26 rfl w.heap.size 40 i0 (.agg #[.int .i64 0, .int .i64 0]) 2 Tryz.underlying26 hInfo hz0 hz1 _ _ _ _ nets.length rfl rfl (by first | rfl | simp) (by first | rfl | simp) ?b2 ?b3 (Nat.le_refl _) ?_)
  case b2 => rw [hz2]; omega
  case b3 => unfold maxLen; omega
  intro w0 hown0 hgrow0
  have hown1 := box_pairs hown0
  rw [madePairs] at hown1
  have hb0 : Below w.heap.size w w0 := (Below.refl _ _).grown hgrow0 (Nat.le_refl _) (fun k h => by cases h)
  clear hgrow0 hown0
  go_upto_region 2 with (fail)
  have hrows : Tryz.zeroCells85.toList = rowCells (.slice none 0 0) (.slice none 0 0) (List.replicate 97 0) (.slice none 0 0) := by kernel_rfl
  have hst := run_storeCells_new (P := Tryz.prog) w0 85 Tryz.zeroCells85 (rowCells (.slice p nets.length ca) (.slice q ord.length cb) (List.replicate 97 0) (.slice (some ⟨w.heap.size, 0, none⟩) nets.length nets.length)).toArray (by rw [rowInfo]; simp [rowCells]) (by rw [← Array.length_toList, hrows]; simp [rowCells]) (by simp [rowCells, Value.oneCell'])
  have hL : ((Tryz.zeroCells85.toList.set 0 (.slice p nets.length ca)).set 1 (.slice q ord.length cb)).set 99 (.slice (some ⟨w.heap.size, 0, none⟩) nets.length nets.length) = (rowCells (.slice p nets.length ca) (.slice q ord.length cb) (List.replicate 97 0) (.slice (some ⟨w.heap.size, 0, none⟩) nets.length nets.length)) := by
    rw [hrows]; rfl
  have hst2 : Sem.run Tryz.prog (storeCells ⟨w0.heap.size, 0, none⟩ (rowCells (.slice p nets.length ca) (.slice q ord.length cb) (List.replicate 97 0) (.slice (some ⟨w.heap.size, 0, none⟩) nets.length nets.length)) 0) (w0.alloc (.cells Tryz.zeroCells85 85)) = _ := hst
  rw [hL, hst2]
  have B0 : BoxAt (w0.alloc (.cells (rowCells (.slice p nets.length ca) (.slice q ord.length cb) (List.replicate 97 0) (.slice (some ⟨w.heap.size, 0, none⟩) nets.length nets.length)).toArray 85)) w0.heap.size 85 (rowCells (.slice p nets.length ca) (.slice q ord.length cb) (List.replicate 97 0) (.slice (some ⟨w.heap.size, 0, none⟩) nets.length nets.length)) := BoxAt.made _ _ _
  have G0 : Below w0.heap.size w0 (w0.alloc (.cells (rowCells (.slice p nets.length ca) (.slice q ord.length cb) (List.replicate 97 0) (.slice (some ⟨w.heap.size, 0, none⟩) nets.length nets.length)).toArray 85)) := (Below.refl _ _).alloc (Nat.le_refl _) _
  have hs0 : w.heap.size < w0.heap.size := hown1.lt
  generalize w0.alloc (.cells (rowCells (.slice p nets.length ca) (.slice q ord.length cb) (List.replicate 97 0) (.slice (some ⟨w.heap.size, 0, none⟩) nets.length nets.length)).toArray 85) = w1 at *
  rw [Result.andThen_ok, Oper.upon_skip]
  have E1 := Lib.hid (BoxAt.below hown1 G0 hs0)
  have D1 := Lib.hid (hb0.trans (G0.mono hb0.size))
  have C1 := Lib.hid B0
  generalize w0.heap.size = g0 at *
  clear hst hst2 hL hrows hown1 hb0 B0 G0
  go_upto_region 3 with (fail)
  go_loopw [23] (fun ii wr => ∃ (k : Nat) (ps : List Int), k ≤ ord.length ∧ ii = .int .i64 k ∧ BoxAt wr g0 85 (rowCells (.slice p nets.length ca) (.slice q ord.length cb) ps (.slice (some ⟨w.heap.size, 0, none⟩) nets.length nets.length)) ∧ ps.length = 97 ∧ BoxAt wr w.heap.size 40 (pcells (List.replicate nets.length (0, 0))) ∧ Below w.heap.size w wr ∧ Hid (∀ d : Nat, (d : Int) ∈ ord.take k → ps.getD d 0 = posOf d ord)) (fun ii _ => ord.length - (intOf ii).toNat)
  case atStart => exact ⟨0, List.replicate 97 0, Nat.zero_le _, rfl, C1.out, by simp, E1.out, D1.out, Lib.hid (fun d hd => by simp at hd)⟩
  case round =>
    clear E1 D1 C1
    obtain ⟨k, ps, hk, rfl, hC, hpl, hE, hb, hps⟩ := hrel
    by_cases h0 : k < ord.length
    · obtain ⟨g, o, rfl, hg, hc⟩ := HO.out.at (i := k) h0
      have hc := (hb.cell (p := ⟨g, o + k, none⟩) hg).trans hc
      have hr := HOk.out.ord.rng _ (getD_mem_int h0)
      obtain ⟨c, hcc⟩ : ∃ c : Nat, ord.getD k 0 = (c : Int) := ⟨(ord.getD k 0).toNat, by omega⟩
      rw [hcc] at hc hr
      have hnx := Lib.hid (pos_next HOk.out.ord hn hpl h0 hcc hps.out)
      have hcn : c < 97 := by omega
      have hom := HO.out.1
      have hfree := hC.free (2 + c)
      have hcell := hC.cell (2 + c)
      rw [rowCells_pos (by omega)] at hcell
      have HC := Lib.hid hC
      have HE := Lib.hid hE
      have HB := Lib.hid hb
      clear hC hE hb hps hcc
      go_wp2
      go_roundw
      case rel => exact ⟨k + 1, ps.set c (k : Int), by omega, by go_num, by rw [← rowCells_set (ps := ps) (c := c) (by omega)]; exact HC.out.store (2 + c) _, by rw [List.length_set]; exact hpl, HE.out.other (by omega) _ _, HB.out.setCell (show w.heap.size ≤ g0 by omega) _, hnx⟩
      case measure => simp [intOf]; omega
    · obtain rfl : k = ord.length := by omega
      have HP := Lib.hid (fun (c : Nat) (hc : c < n) => hps.out c (by rw [List.take_length]; exact HOk.out.ord.all (by omega) (by omega)))
      have HC := Lib.hid hC
      have HE := Lib.hid hE
      have HB := Lib.hid hb
      have hgs := hC.lt
      clear hC hE hb hps h0
      go_upto_region 8 with (fail)
      go_loopw [35] (fun ii wr => ∃ (k : Nat) (es : List (Int × Int)), k ≤ nets.length ∧ ii = .int .i64 k ∧ BoxAt wr g0 85 (rowCells (.slice p nets.length ca) (.slice q ord.length cb) ps (.slice (some ⟨w.heap.size, 0, none⟩) nets.length nets.length)) ∧ es.length = nets.length ∧ BoxAt wr w.heap.size 40 (pcells es) ∧ Below w.heap.size w wr ∧ Hid (es.take k = (extsOf nets ord).take k)) (fun ii _ => nets.length - (intOf ii).toNat)
      case atStart => exact ⟨0, _, Nat.zero_le _, rfl, HC.out, by simp, HE.out, HB.out, Lib.hid rfl⟩
      case round =>
        clear HC HE HB hgs
        obtain ⟨k, es, hk, rfl, hC, hel, hE, hb, hes⟩ := hrel
        by_cases h0 : k < nets.length
        · obtain ⟨g, o, rfl, hg, hc1, q2, c2, hc2, hq⟩ := HX.out.at (i := k) h0
          have hc1 := (hb.cell (p := ⟨g, o + k * 2, none⟩) hg).trans hc1
          have hc2 := (hb.cell (p := ⟨g, o + k * 2 + 1, none⟩) hg).trans hc2
          have hocols := HOk.out.cols k h0
          have hmm := mmOf_all HOk.out.ord hocols
          have hnx := take_next (by rw [hel, extsOf_len]) hes.out (extsOf_at nets ord h0)
          generalize nets.getD k (0, []) = nt at *
          obtain ⟨sh, l⟩ := nt
          simp only at hc1 hc2 hq hocols hmm hnx
          have hlm := hq.1
          have hlpos : 0 < l.length := List.length_pos_iff.2 hocols.1
          have HQ := Lib.hid hq
          have HM := Lib.hid hmm
          have HN := Lib.hid hnx
          have HCo := Lib.hid (fun (c : Int) (h : c ∈ l) => hocols.2 c h)
          have HC := Lib.hid hC
          have HE := Lib.hid hE
          have HB := Lib.hid hb
          have hgs := hC.lt
          clear hC hE hb hes hocols hmm hnx hq
          go_upto_region 10 with (fail)
          have B1 : BoxAt (wr.alloc (.cells #[.int .i64 sh, .slice q2 l.length c2] 39)) wr.heap.size 39 [.int .i64 sh, .slice q2 l.length c2] := BoxAt.made _ _ _
          have G1 : Below wr.heap.size wr (wr.alloc (.cells #[.int .i64 sh, .slice q2 l.length c2] 39)) := (Below.refl _ _).alloc (Nat.le_refl _) _
          generalize wr.alloc (.cells #[.int .i64 sh, .slice q2 l.length c2] 39) = w1 at *
          have HC1 := Lib.hid (BoxAt.below HC.out G1 hgs)
          have HE1 := Lib.hid (BoxAt.below HE.out G1 (by omega))
          have HB1 := Lib.hid (HB.out.trans (G1.mono HB.out.size))
          have BB1 := Lib.hid B1
          have d1 := B1.cell 1
          simp only [List.getElem?_cons_zero, List.getElem?_cons_succ] at d1
          have hgs1 : g0 < w1.heap.size := Nat.lt_of_lt_of_le hgs G1.size
          have hbs1 := B1.lt
          generalize wr.heap.size = b1 at *
          obtain ⟨c0, hc0⟩ : ∃ c0 : Nat, l.getD 0 0 = (c0 : Int) := ⟨(l.getD 0 0).toNat, by have := HCo.out _ (getD_mem_int hlpos); omega⟩
          have hc0n : c0 < n := by have := HCo.out _ (getD_mem_int hlpos); omega
          obtain ⟨gl, ol, rfl, hgl, hl0⟩ := (HQ.out.below HB1.out).at (i := 0) hlpos
          rw [hc0, Nat.add_zero] at hl0
          have hp0 := HC1.out.cell (2 + c0)
          rw [rowCells_pos (by omega), HP.out c0 hc0n] at hp0
          have hm0 := Lib.hid (mmOf_zero ord l)
          rw [hc0] at hm0
          generalize posOf (c0 : Int) ord = p0 at *
          have HC0 := Lib.hid hc0
          clear B1 G1 HC HE HB hc0
          go_upto_region 12 with (fail)
          have B2 : BoxAt (w1.alloc (.cells #[.int .i64 p0, .int .i64 p0] 40)) w1.heap.size 40 [.int .i64 p0, .int .i64 p0] := BoxAt.made _ _ _
          have G2 : Below w1.heap.size w1 (w1.alloc (.cells #[.int .i64 p0, .int .i64 p0] 40)) := (Below.refl _ _).alloc (Nat.le_refl _) _
          generalize w1.alloc (.cells #[.int .i64 p0, .int .i64 p0] 40) = w2 at *
          have HK := Lib.hid (fun W (h : Below w1.heap.size w1 W) => (⟨BoxAt.below HC1.out h hgs1, BoxAt.below HE1.out h (by omega), BoxAt.below BB1.out h hbs1, HB1.out.trans (h.mono HB1.out.size)⟩ :
            BoxAt W g0 85 (rowCells (.slice (some ⟨g, o, none⟩) nets.length ca) (.slice q ord.length cb) ps (.slice (some ⟨w.heap.size, 0, none⟩) nets.length nets.length)) ∧ BoxAt W w.heap.size 40 (pcells es) ∧ BoxAt W b1 39 [.int .i64 sh, .slice (some ⟨gl, ol, none⟩) l.length c2] ∧ Below w.heap.size w W))
          generalize w1.heap.size = b2 at *
          have hB2 := B2.lt
          have HB2 := Lib.hid B2
          have HG2 := Lib.hid G2
          have hd1 := (HK.out _ G2).2.2.1.cell 1
          simp only [List.getElem?_cons_zero, List.getElem?_cons_succ] at hd1
          clear B2 G2 d1 hl0 hp0 HC1 HE1 BB1 HB1 HC0
          go_wp2
          go_loopw [53] (fun ji wj => ∃ (j : Nat) (lo hi : Int), j ≤ l.length ∧ ji = .int .i64 j ∧ BoxAt wj b2 40 [.int .i64 lo, .int .i64 hi] ∧ Below b2 w1 wj ∧ b2 < wj.heap.size ∧ Hid (mmOf ord l j = (lo, hi))) (fun ji _ => l.length - (intOf ji).toNat)
          case atStart => exact ⟨0, p0, p0, Nat.zero_le _, rfl, HB2.out, HG2.out, hB2, hm0⟩
          case round =>
            clear hd1 HB2 HG2 hB2
            obtain ⟨j, lo, hi, hj, rfl, hB2, hG2, hsz2, hrel⟩ := hrel
            obtain ⟨hC2, hE2, hN2, hW2⟩ := HK.out _ hG2
            by_cases h3 : j < l.length
            · obtain ⟨d, hd⟩ : ∃ d : Nat, l.getD j 0 = (d : Int) := ⟨(l.getD j 0).toNat, by have := HCo.out _ (getD_mem_int h3); omega⟩
              have hdn : d < n := by have := HCo.out _ (getD_mem_int h3); omega
              obtain ⟨gl', ol', hgo, hgl', hlj⟩ := (HQ.out.below hW2).at (i := j) h3
              injection hgo with hgo
              injection hgo with e1 e2 _
              subst e1; subst e2
              rw [hd] at hlj
              have hpd := hC2.cell (2 + d)
              rw [rowCells_pos (by omega), HP.out d hdn] at hpd
              have hms := mmOf_succ ord h3
              rw [hrel.out, hd] at hms
              unfold mmStep at hms
              simp only at hms
              generalize posOf (d : Int) ord = pd at *
              have k0 := hB2.cell 0
              have k1 := hB2.cell 1
              simp only [List.getElem?_cons_zero, List.getElem?_cons_succ] at k0 k1
              have f0 := hB2.free 0
              have f1 := hB2.free 1
              have HMS := Lib.hid hms
              have HB2 := Lib.hid hB2
              have HG2 := Lib.hid hG2
              clear hms hB2 hG2 hC2 hE2 hN2 hW2 hd hrel
              go_wp2
              go_roundw
              case rel => exact ⟨j + 1, (if pd < lo then pd else lo), (if hi < pd then pd else hi), by omega, by go_num, (HB2.out.store 0 _).store 1 _, (HG2.out.setCell (Nat.le_refl _) _).setCell (Nat.le_refl _) _, by simpa [World.setCell] using hsz2, Lib.hid (by
                rw [HMS.out]
                refine Prod.ext ?_ ?_
                · show min lo pd = if pd < lo then pd else lo
                  split <;> omega
                · show max hi pd = if hi < pd then pd else hi
                  split <;> omega)⟩
              case measure => simp [intOf]; omega
            · obtain rfl : j = l.length := by omega
              have hfin : extOf ord l = (lo, hi) := by rw [← HM.out, hrel.out]
              have k0 := hB2.cell 0
              have k1 := hB2.cell 1
              simp only [List.getElem?_cons_zero, List.getElem?_cons_succ] at k0 k1
              have ke := hC2.cell 99
              rw [rowCells_ext hpl] at ke
              have e0 := hE2.cell (k * 2)
              have e1 := hE2.cell (k * 2 + 1)
              rw [pcells_fst (by omega)] at e0
              rw [pcells_snd (by omega)] at e1
              have g1 := hE2.free (k * 2)
              have g2 := hE2.free (k * 2 + 1)
              rw [hfin] at HN
              have HC2 := Lib.hid hC2
              have HE2 := Lib.hid hE2
              have HW2 := Lib.hid hW2
              clear hC2 hE2 hN2 hW2 hB2 hG2 hfin hrel
              go_wp2
              go_roundw
              case rel => exact ⟨k + 1, es.set k (lo, hi), by omega, by go_num, (HC2.out.other (by omega) _ _).other (by omega) _ _, by rw [List.length_set]; exact hel, by rw [← pcells_set]; exact (HE2.out.store _ _).store _ _, (HW2.out.setCell (Nat.le_refl _) _).setCell (Nat.le_refl _) _, HN⟩
              case measure => simp [intOf]; omega
        · obtain rfl : k = nets.length := by omega
          have hall : es = extsOf nets ord := by
            have := hes.out
            rwa [List.take_of_length_le (by omega), List.take_of_length_le (by rw [extsOf_len]; omega)] at this
          have HA := Lib.hid hall
          have HC := Lib.hid hC
          have HE := Lib.hid hE
          have HB := Lib.hid hb
          clear hall hC hE hb hes
          go_wp2
          go_ret
          exact ⟨_, _, ps, rfl, HC.out, hpl, HP.out, by rw [← HA.out]; exact HE.out, HB.out⟩
end Go.Proofs.YtggcnnpklkmeoaaGreatDoor
end

section
namespace Go.Proofs.YtggcnnpklkmeoaaGreatDoor
open Go.RowKit Go

/-- What newRow made. -/
def RowAt (w : World) (g : Nat) (p q : Option Addr) (ca cb : Nat) (nets : List (Int × List Int)) (ord : List Int) : Prop :=
  ∃ h ps, BoxAt w g 85 (rowCells (.slice p nets.length ca) (.slice q ord.length cb) ps (.slice (some ⟨h, 0, none⟩) nets.length nets.length)) ∧ ps.length = 97 ∧
    (∀ c : Nat, c < ord.length → ps.getD c 0 = posOf c ord) ∧ BoxAt w h 40 (pcells (extsOf nets ord))

theorem RowAt.below {w w' : World} {g : Nat} {p q : Option Addr} {ca cb : Nat} {nets : List (Int × List Int)} {ord : List Int} (h : RowAt w g p q ca cb nets ord) (hb : Below w.heap.size w w') : RowAt w' g p q ca cb nets ord := by
  obtain ⟨x, ps, h1, h2, h3, h4⟩ := h
  exact ⟨x, ps, h1.below hb h1.lt, h2, h3, h4.below hb h4.lt⟩

/-- The first error of nets and an order. -/
def rowErr (cols : Int) (nets : List (Int × List Int)) (ord : List Int) : Int := if netsOf cols nets = 0 then orderOf cols ord else netsOf cols nets

theorem rowErr_ok {cols : Int} {nets : List (Int × List Int)} {ord : List Int} (h : rowErr cols nets ord = 0) : netsOf cols nets = 0 ∧ orderOf cols ord = 0 := by
  unfold rowErr at h
  split at h
  · exact ⟨by assumption, h⟩
  · rename_i h2; exact absurd h h2

structure RowOk (cols : Int) (nets : List (Int × List Int)) (ord : List Int) : Prop where
  ok : OkNets ord.length nets ord
  len : ord.length ≤ 97
  pos : 0 < ord.length
  colsEq : (ord.length : Int) = cols
  most : nets.length ≤ 64

theorem rowOk_of {cols : Int} {nets : List (Int × List Int)} {ord : List Int} (h : rowErr cols nets ord = 0) : RowOk cols nets ord := by
  obtain ⟨h1, h2⟩ := rowErr_ok h
  obtain ⟨⟨a, b⟩, c, _⟩ := netsOf_ok h1
  obtain ⟨n, rfl⟩ : ∃ n : Nat, cols = (n : Int) := ⟨cols.toNat, by omega⟩
  have hok := okNets_of h1 h2
  have hl := hok.ord.len
  subst hl
  exact ⟨hok, by omega, by omega, rfl, c⟩

theorem below_ret {P : Program} {f : FuncId} {args : Array Value} {w W : World} {v : Value} (h : Below w.heap.size w W) (k : Calls P f args W fun e w' => e = .returned v ∧ Below W.heap.size W w') :
    Calls P f args W fun e w' => e = .returned v ∧ Below w.heap.size w w' := k.mono fun _ _ k => ⟨k.1, h.trans (k.2.mono h.size)⟩

set_option maxHeartbeats 1600000 in
set_option maxRecDepth 100000 in
/-- readRow. -/
theorem uReadRow_any (p q : Option Addr) (ca cb : Nat) (nets : List (Int × List Int)) (ord : List Int) (cols : Int) (w : World) (hx : NetsV w p nets) (ho : IntV w q ord) :
    Calls Tryz.prog 43 #[.slice p nets.length ca, .int .i64 cols, .slice q ord.length cb] w fun e w' => ∃ pv, e = .returned (.tuple #[pv, .int .i64 (rowErr cols nets ord)]) ∧
      (rowErr cols nets ord = 0 → ∃ g, pv = .pointer (some ⟨g, 0, none⟩) ∧ RowAt w' g p q ca cb nets ord) ∧ Below w.heap.size w w' := by
  have hm := ho.1
  have KN := Lib.hid (fun W (h : Below w.heap.size w W) => below_ret h (uCheckNets_any p ca nets cols W (hx.below h)))
  have KD := Lib.hid (fun (n : Nat) (hn : n ≤ 1000000) W (h : Below w.heap.size w W) => below_ret h (uDiff_any q cb ord n W (ho.below h) hn))
  have hb : Below w.heap.size w w := Below.refl _ _
  have hok := fun h => rowOk_of (cols := cols) (nets := nets) (ord := ord) h
  have KR := Lib.hid (fun (h0 : rowErr cols nets ord = 0) W (h : Below w.heap.size w W) => uNewRow_any p q ca cb nets ord ord.length W (hx.below h) (ho.below h) (hok h0).ok (hok h0).len (hok h0).most)
  have hre : rowErr cols nets ord = if netsOf cols nets = 0 then orderOf cols ord else netsOf cols nets := rfl
  have hoe : orderOf cols ord = if (ord.length : Int) = cols then orderFrom cols ord 0 ord.length else 2 := rfl
  generalize rowErr cols nets ord = res at *
  generalize orderOf cols ord = oe at *
  have hbd : netsOf cols nets = 0 → 1 ≤ cols ∧ cols ≤ 97 := fun h => (netsOf_ok h).1
  generalize netsOf cols nets = ne at *
  have HRE := Lib.hid hre
  have HOE := Lib.hid hoe
  clear hre hoe hx ho hok
  by_cases c1 : ne = 0
  · have hbd := hbd c1
    obtain ⟨n, rfl⟩ : ∃ n : Nat, cols = (n : Int) := ⟨cols.toNat, by omega⟩
    subst c1
    by_cases c2 : (ord.length : Int) = (n : Int)
    · have hz : res = orderFrom n ord 0 ord.length := by rw [HRE.out, if_pos rfl, HOE.out, if_pos c2]
      have hd2 : ((ord.length : Int) != (n : Int)) = false := by rw [c2]; simp
      have HC2 := Lib.hid c2
      have KD2 := Lib.hid (KD.out n (by omega))
      rw [← hz] at KD2
      clear c2 hz KD
      by_cases c3 : res = 0
      · have KR2 := Lib.hid (KR.out c3)
        subst c3
        clear KR
        go_enter Tryz.func43, Tryz.ntmps43
        go_wp2_with (first
          | (go_at_call 73; (with_reducible refine (KN.out _ ?hb).mono ?_); (case hb => assumption); rintro e w1 ⟨rfl, hb⟩)
          | (go_at_call 53; (with_reducible refine (KD2.out _ ?hb).mono ?_); (case hb => assumption); rintro e w2 ⟨rfl, hb2⟩)
          | (go_at_call 74; (with_reducible refine (KR2.out _ ?hb).mono ?_); (case hb => assumption); rintro e w3 ⟨g, h, ps, rfl, hg1, hg2, hg3, hg4, hg5⟩))
        go_ret2
        exact ⟨_, rfl, fun _ => ⟨g, rfl, h, ps, hg1, hg2, hg3, hg4⟩, hb2.trans (hg5.mono hb2.size)⟩
      · have hne : (res != 0) = true := by simpa using c3
        have HC3 := Lib.hid c3
        clear c3 KR
        go_enter Tryz.func43, Tryz.ntmps43
        go_wp2_with (first
          | (go_at_call 73; (with_reducible refine (KN.out _ ?hb).mono ?_); (case hb => assumption); rintro e w1 ⟨rfl, hb⟩)
          | (go_at_call 53; (with_reducible refine (KD2.out _ ?hb).mono ?_); (case hb => assumption); rintro e w2 ⟨rfl, hb⟩))
        go_ret2
        exact ⟨_, rfl, fun h => absurd h HC3.out, by assumption⟩
    · have hz : res = 2 := by rw [HRE.out, if_pos rfl, HOE.out, if_neg c2]
      subst hz
      have hd2 : ((ord.length : Int) != (n : Int)) = true := by simpa using c2
      clear c2 KR KD
      go_enter Tryz.func43, Tryz.ntmps43
      go_wp2_with (first
          | (go_at_call 73; (with_reducible refine (KN.out _ ?hb).mono ?_); (case hb => assumption); rintro e w1 ⟨rfl, hb⟩))
      go_ret2
      exact ⟨_, rfl, fun h => by omega, by assumption⟩
  · have hz : res = ne := by rw [HRE.out, if_neg c1]
    subst hz
    have hne : (res != 0) = true := by simpa using c1
    have HC1 := Lib.hid c1
    clear c1 KR KD hbd
    go_enter Tryz.func43, Tryz.ntmps43
    go_wp2_with (first
          | (go_at_call 73; (with_reducible refine (KN.out _ ?hb).mono ?_); (case hb => assumption); rintro e w1 ⟨rfl, hb⟩))
    go_ret2
    exact ⟨_, rfl, fun h => absurd h HC1.out, by assumption⟩

set_option maxHeartbeats 1600000 in
set_option maxRecDepth 100000 in
/-- Extents. -/
theorem uExtents_any (p q : Option Addr) (ca cb : Nat) (nets : List (Int × List Int)) (ord : List Int) (cols : Int) (w : World) (hx : NetsV w p nets) (ho : IntV w q ord) :
    Calls Tryz.prog 11 #[.slice p nets.length ca, .int .i64 cols, .slice q ord.length cb] w fun e w' => ∃ u, e = .returned (.tuple #[u, .int .i64 (rowErr cols nets ord)]) ∧
      (rowErr cols nets ord ≠ 0 → u = .slice none 0 0) ∧ (rowErr cols nets ord = 0 → ∃ h, u = .slice (some ⟨h, 0, none⟩) nets.length nets.length ∧ PairsV w' (some ⟨h, 0, none⟩) (extsOf nets ord)) ∧ Below w.heap.size w w' := by
  have KR := Lib.hid (uReadRow_any p q ca cb nets ord cols w hx ho)
  have hlen := hx.1
  clear hx ho
  generalize rowErr cols nets ord = res at *
  by_cases c : res = 0
  · subst c
    go_enter Tryz.func11, Tryz.ntmps11
    go_upto_region 1 with (fail)
    go_wp2_with (go_at_call 43; refine KR.out.mono ?_; rintro e w1 ⟨pv, rfl, hpv, hb⟩; obtain ⟨g, rfl, h, ps, h1, h2, h3, h4⟩ := hpv rfl; have ke := h1.cell 99; rw [rowCells_ext h2] at ke)
    go_ret2
    exact ⟨_, rfl, fun h => absurd rfl h, fun _ => ⟨h, rfl, pairs_of_box h4 (by rw [extsOf_len]; exact hlen)⟩, hb⟩
  · have hne : (res != 0) = true := by simpa using c
    have HC := Lib.hid c
    clear c
    go_enter Tryz.func11, Tryz.ntmps11
    go_wp2_with (go_at_call 43; refine KR.out.mono ?_; rintro e w1 ⟨pv, rfl, hpv, hb⟩; clear hpv)
    go_ret2
    exact ⟨_, rfl, fun _ => rfl, fun h => absurd h HC.out, hb⟩

set_option maxHeartbeats 1600000 in
set_option maxRecDepth 100000 in
/-- length. -/
theorem uRlength_any (g : Nat) (p q : Option Addr) (ca cb : Nat) (nets : List (Int × List Int)) (ord : List Int) (w : World) (h : RowAt w g p q ca cb nets ord) (hl1 : nets.length ≤ 64) (hl2 : ord.length ≤ 97) :
    Calls Tryz.prog 44 #[.pointer (some ⟨g, 0, none⟩)] w fun e w' => e = .returned (.int .i64 (lenOf ord nets)) ∧ Below w.heap.size w w' := by
  obtain ⟨x, ps, h1, h2, h3, h4⟩ := h
  have ke := h1.cell 99
  rw [rowCells_ext h2] at ke
  have hlt := h4.lt
  generalize hr : lenOf ord nets = res
  have HR := Lib.hid hr
  have H4 := Lib.hid h4
  clear hr h1 h2 h3 h4
  go_enter Tryz.func44, Tryz.ntmps44
  go_wp2
  go_loopw [3, 11] (fun si ii wr => ∃ (k : Nat) (s : Int), k ≤ nets.length ∧ ii = .int .i64 k ∧ si = .int .i64 s ∧ Hid (lenOf ord (nets.take k) = s) ∧ Below w.heap.size w wr) (fun _ ii _ => nets.length - (intOf ii).toNat)
  case atStart => exact ⟨0, 0, Nat.zero_le _, rfl, rfl, Lib.hid rfl, Below.refl _ _⟩
  case round =>
    obtain ⟨k, s, hk, rfl, rfl, hrel, hb⟩ := hrel
    by_cases h0 : k < nets.length
    · have hB := H4.out.below hb hlt
      have e0 := hB.cell (k * 2)
      have e1 := hB.cell (k * 2 + 1)
      rw [pcells_fst (by rw [extsOf_len]; exact h0), extsOf_get nets ord h0] at e0
      rw [pcells_snd (by rw [extsOf_len]; exact h0), extsOf_get nets ord h0] at e1
      have hs := lenOf_succ ord h0
      have hbd := lenOf_bd ord (nets.take k)
      have hbe := ext_bd ord (nets.getD k (0, [])).2
      have hll : (nets.take k).length ≤ 64 := Nat.le_trans (List.length_take_le' _ _) hl1
      have hmul : ((ord.length : Int) + 1) * ((nets.take k).length : Int) ≤ 98 * 64 := Int.mul_le_mul (by omega) (by omega) (by omega) (by omega)
      rw [hrel.out] at hs hbd
      generalize extOf ord (nets.getD k (0, [])).2 = lh at *
      obtain ⟨lo, hi⟩ := lh
      simp only at hs hbe e0 e1
      obtain ⟨b1, b2, b3, b4⟩ := hbe
      have hb1 : -10000 ≤ s := by omega
      have hb2 : s ≤ 10000 := by omega
      have hb3 : lo ≤ 97 := by omega
      have hb4 : hi ≤ 97 := by omega
      generalize hn : lenOf ord (nets.take (k + 1)) = s' at *
      have HN := Lib.hid hn
      have HS := Lib.hid hs
      have HB := Lib.hid hb
      have hsz := hb.size
      clear hs hn hbd hmul hll hb hB hrel b2 b4
      go_wp2
      go_roundw
      case rel => exact ⟨k + 1, s', by omega, by go_num, by rw [HS.out]; congr 1; omega, HN, HB.out.alloc hsz _⟩
      case measure => simp [intOf]; omega
    · obtain rfl : k = nets.length := by omega
      have hz : res = s := by rw [← HR.out, ← hrel.out, List.take_length]
      have HZ := Lib.hid hz
      clear hz
      go_wp2
      go_ret
      exact ⟨iret HZ.out.symm, hb⟩

set_option maxHeartbeats 1600000 in
set_option maxRecDepth 100000 in
/-- Length. -/
theorem uLength_any (p q : Option Addr) (ca cb : Nat) (nets : List (Int × List Int)) (ord : List Int) (cols : Int) (w : World) (hx : NetsV w p nets) (ho : IntV w q ord) :
    Calls Tryz.prog 12 #[.slice p nets.length ca, .int .i64 cols, .slice q ord.length cb] w fun e w' => e = .returned (.tuple #[.int .i64 (if rowErr cols nets ord = 0 then lenOf ord nets else 0), .int .i64 (rowErr cols nets ord)]) ∧ Below w.heap.size w w' := by
  have KR := Lib.hid (uReadRow_any p q ca cb nets ord cols w hx ho)
  have KL := Lib.hid (fun (hz : rowErr cols nets ord = 0) W g (h : RowAt W g p q ca cb nets ord) => uRlength_any g p q ca cb nets ord W h (rowOk_of hz).most (rowOk_of hz).len)
  clear hx ho
  generalize rowErr cols nets ord = res at *
  by_cases c : res = 0
  · subst c
    rw [if_pos rfl]
    have KL2 := Lib.hid (KL.out rfl)
    clear KL
    generalize lenOf ord nets = le at *
    go_enter Tryz.func12, Tryz.ntmps12
    go_wp2_with (first
      | (go_at_call 43; (with_reducible refine KR.out.mono ?_); rintro e w1 ⟨pv, rfl, hpv, hb⟩; obtain ⟨g, rfl, hrow⟩ := hpv rfl)
      | (go_at_call 44; (with_reducible refine (KL2.out _ _ hrow).mono ?_); rintro e w2 ⟨rfl, hb2⟩))
    go_ret2
    exact ⟨rfl, hb.trans (hb2.mono hb.size)⟩
  · have hne : (res != 0) = true := by simpa using c
    rw [if_neg c]
    have HC := Lib.hid c
    clear c KL
    go_enter Tryz.func12, Tryz.ntmps12
    go_wp2_with (go_at_call 43; refine KR.out.mono ?_; rintro e w1 ⟨pv, rfl, hpv, hb⟩; clear hpv)
    go_ret2
    exact ⟨rfl, hb⟩
end Go.Proofs.YtggcnnpklkmeoaaGreatDoor
end

