/-
  The contract of runsIn over whatever tells spans.
-/
import Derived.Test.YtpoccjlngbdjlaaQBlt
import Derived.Test.YtpoccjlngbdjlaaQApl

namespace Go.Proofs.Ytpoccjlngbdjlaa
open Go.RowKit Go.Shelf
set_option linter.unusedVariables false

/-- A span: where it begins, how long it is. -/
abbrev Sp := { s : Nat × Nat // 1 ≤ s.2 ∧ s.1 + s.2 ≤ 64 }
def spE (s : Sp) : Array Value := #[.agg #[.int .u64 (s.1.1 : Nat), .int .u64 (s.1.2 : Nat)]]
def spP (pre : List Sp) (i : Nat) : Int := (pre.map fun s => ((s.1.1 : Nat) : Int)).getD i 0
def spZ (zs : List Int) (pre : List Sp) (i : Nat) : List Int := (pre.map fun s => (zs.drop s.1.1).take s.1.2).getD i []

theorem spP_lt (pre : List Sp) (x : Sp) (i : Nat) (h : i < pre.length) : spP (pre ++ [x]) i = spP pre i := by simp [spP, List.getD, List.getElem?_append, h]
theorem spP_eq (pre : List Sp) (x : Sp) : spP (pre ++ [x]) pre.length = (x.1.1 : Nat) := by simp [spP, List.getD]
theorem spZ_lt (zs : List Int) (pre : List Sp) (x : Sp) (i : Nat) (h : i < pre.length) : spZ zs (pre ++ [x]) i = spZ zs pre i := by simp [spZ, List.getD, List.getElem?_append, h]
theorem spZ_eq (zs : List Int) (pre : List Sp) (x : Sp) : spZ zs (pre ++ [x]) pre.length = (zs.drop x.1.1).take x.1.2 := by simp [spZ, List.getD]

theorem pgC_toCells (zs : List Int) : (Value.agg (pgC zs)).cells = pgC zs := rfl
theorem boxed (zs : List Int) (w : World) (h : zs.length = 64) : ∃ X, w.alloc (.cells (pgC zs) 58) = X ∧ Arr X w.heap.size zs ∧ Below w.heap.size w X := ⟨_, rfl, arr_new w zs h, (Below.refl _ _).alloc (Nat.le_refl _) _⟩

/-- What a round of runsIn finds. -/
def RinI (w : World) (B pb : Nat) (zs : List Int) (pre : List Sp) (W : World) : Prop :=
  (∃ v C F, Boxed W B 26 v ∧ Blt w.heap.size W v pre.length (spP pre) C (spZ zs pre) F ∧ ∀ i, i < pre.length → F i ≠ B) ∧ Arr W pb zs ∧ Below w.heap.size w W

theorem arr_kept {W W' : World} {b : Nat} {zs : List Int} (h : Arr W b zs) {row : Option Nat} (hg : W.grownBy W' row) (hr : ∀ r, row = some r → ∃ o : Obj, W.heap[r]? = some o ∧ o.isCells = false) : Arr W' b zs :=
  ⟨h.len, (hg.block b h.lt (fun e => by obtain ⟨o, ho, hc⟩ := hr b e.symm; rw [h.row] at ho; cases ho; cases hc)).trans h.row⟩

/-- Block g is a row of m bytes that may be written. -/
structure Row5 (w : World) (g m : Nat) : Prop where
  row : ∃ cur : Array Value, w.heap[g]? = some (.cells cur 5 (0, 0)) ∧ cur.size = m
theorem Row5.lt {w : World} {g m : Nat} (h : Row5 w g m) : g < w.heap.size := by obtain ⟨cur, hg, _⟩ := h.row; exact (Array.getElem?_eq_some_iff.1 hg).1
theorem Row5.drew {w : World} {g m : Nat} (h : Row5 w g m) : Row5 w.drew g m := ⟨h.row⟩
theorem Row5.grown {w w' : World} {g m : Nat} (h : Row5 w g m) (hb : Below w.heap.size w w') : Row5 w' g m := ⟨by obtain ⟨cur, hg, hs⟩ := h.row; exact ⟨cur, (hb.block g h.lt).trans hg, hs⟩⟩
theorem row5_of {w : World} {base g m : Nat} {xs : List Value} (h : w.ownsRow base 5 1 (.slice (some ⟨g, 0, none⟩) m m) m xs) : Row5 w g m := by
  rcases h.2 with ⟨h0, _⟩ | ⟨g', cap, cur, hv, _, hg, _, _, hs, _⟩
  · cases h0
  · simp only [Value.slice.injEq, Option.some.injEq, Addr.mk.injEq, and_true, true_and] at hv
    obtain ⟨rfl, rfl⟩ := hv
    exact ⟨cur, hg, by rw [hs, Nat.mul_one]⟩

/-- Bytes are copied into a row of as many. -/
theorem wp_copyRow {o : Oper} {a : Act} {w : World} {K : Act → World → Prop} {Q : Exit → Act → World → Prop} (d s : Operand)
    (ho : o.op = .call { callee := .builtin .copy, args := #[d, s], argTypes := #[22, 22] })
    (b n dLen dCap : Nat) (ad : Addr) (sCap : Nat) (hd : a.eval d = .slice (some ⟨b, 0, none⟩) dLen dCap) (hs : a.eval s = .slice (some ad) n sCap)
    (hA : Row5 w b n) (cs : List Int) (hn : cs.length = n) (hnd : n ≤ dLen) (hsrc : ∀ j v, (cs.map (Value.int .u8))[j]? = some v → w.cell? (ad.add j) = some v)
    (h : ∀ V, BytesIn b (b + 1) V (some ⟨b, 0, none⟩) cs → Turned b (b + 1) w V → K (a.put o.dst (goInt n)) V) : o.wp Try.prog a w K Q := by
  have hinf : (Try.prog.info? 5).map (·.size) = some 1 := by kernel_rfl
  obtain ⟨cur, hg, hsz⟩ := hA.row
  have hrun := run_copy_row (P := Try.prog) w 22 22 o.type 5 b 0 dLen dCap ad n sCap cur 5 (cs.map (Value.int .u8)) Try.underlying22 hinf hg (by rw [List.length_map, hn]; show n = min n dLen; omega) hsrc (by rw [List.length_map, hn, hsz, Nat.zero_add]; exact Nat.le_refl _) (fun v hv => by
    rw [List.mem_map] at hv
    obtain ⟨z, _, rfl⟩ := hv
    rfl)
  have e : (cur.toList.take 0 ++ cs.map (Value.int .u8) ++ cur.toList.drop (0 + (cs.map (Value.int .u8)).length)).toArray = (cs.map (Value.int .u8)).toArray := by
    rw [List.length_map, hn, List.take_zero, List.nil_append, Nat.zero_add, ← hsz, ← Array.length_toList, List.drop_length, List.append_nil]
  rw [e, List.length_map, hn] at hrun
  have htP : Turned b (b + 1) w (w.setRow b (cs.map (Value.int .u8)).toArray) := ⟨rfl, rfl, rfl, by rw [setRow_size]; exact Nat.le_refl _, fun k hk hn => setRow_other _ b k _ (by omega)⟩
  have hgV := setRow_heap w b cur (cs.map (Value.int .u8)).toArray 5 (0, 0) hg
  have hK := h _ (.inr ⟨b, 0, rfl, Nat.le_refl _, Nat.lt_succ_self _, fun i hi => by rw [cell_of_row _ b _ _ _ _ hgV]; simp [List.getD, hi], fun i hi => by simp [World.frozen?, hgV]⟩) htP
  unfold Oper.wp
  simp [execOp, ho, resolve, invoke, builtin, hd, hs, hrun, Result.andThen]
  exact hK

set_option maxHeartbeats 400000 in
theorem spanEnd_any (p l : Nat) (w : World) (h1 : p ≤ 255) (h3 : l ≤ 255) :
    Calls Try.prog 55 #[.agg #[.int .u64 p, .int .u64 l]] w fun e w' => e = .returned (.int .u64 (p + l : Nat)) ∧ Below w.heap.size w w' := by
  go_enter Try.func55, Try.ntmps55
  go_wp2_with fail
  go_ret
  exact ⟨by simp, by go_grown⟩

theorem spKeep {W V : World} {y b : Nat} {p l : Int} {zs : List Int} (h : W.cell? ⟨y, 0, none⟩ = some (.int .u64 p) ∧ W.cell? ⟨y, 1, none⟩ = some (.int .u64 l) ∧ Arr W b zs) (hb : Below W.heap.size W V) :
    V.cell? ⟨y, 0, none⟩ = some (.int .u64 p) ∧ V.cell? ⟨y, 1, none⟩ = some (.int .u64 l) ∧ Arr V b zs :=
  ⟨(hb.cell (World.block_lt_of_cell? W _ h.1)).trans h.1, (hb.cell (World.block_lt_of_cell? W _ h.2.1)).trans h.2.1, h.2.2.grown hb⟩

theorem keeps_below {W V : World} (h : Below W.heap.size W V) : KeepsOthers W V := ⟨h.size, fun k o hk _ => (h.block k (Array.getElem?_eq_some_iff.1 hk).1).trans hk⟩

theorem arr_not_row {W : World} {b : Nat} {zs : List Int} (h : Arr W b zs) {base k : Nat} {v : Value} {xs : List Value} (hr : W.ownsRow base 35 2 v k xs) : some b ≠ v.ownBlock := by
  intro e
  rcases hr.2 with ⟨rfl, _⟩ | ⟨g, cap, cur, rfl, _, hg, _⟩
  · cases e
  · simp only [Value.ownBlock, Option.some.injEq] at e
    rw [← e, h.row] at hg
    have h2 : (58 : TypeId) = 35 := by injection hg with hg; injection hg
    exact absurd h2 (by decide)

theorem rinI_own (w : World) (B pb : Nat) (zs : List Int) {D : Nat} (hD : w.heap.size ≤ D) : OwnFrom D (RinI w B pb zs) := by
  rintro pre W W' row ⟨⟨v, C, F, hv, hb, hn⟩, hA, g⟩ hg hr
  have hr' : ∀ r, row = some r → ∃ o : Obj, W.heap[r]? = some o ∧ o.isCells = false := fun r e => (hr r e).2
  refine ⟨⟨v, C, F, hv.kept hg (fun e => ?_), hb.kept hg hr', hn⟩, arr_kept hA hg hr', g.grown hg (Nat.le_trans (Nat.le_refl _) g.size) (fun k e => Nat.le_trans hD (hr k e).1)⟩
  obtain ⟨o, ho, hc⟩ := hr' B e.symm
  rw [show W.heap[B]? = _ from hv] at ho
  cases ho
  cases hc

theorem spanBox_own (D : Nat) {x : Sp} {a' : Act} (mk : Nat → Act) {L : Nat} : OwnFrom D (fun (_ : Unit) W => ∃ Bx, L ≤ Bx ∧ W.heap[Bx]? = some (.cells #[.int .u64 (x.1.1 : Nat), .int .u64 (x.1.2 : Nat)] 79 (0, 0)) ∧ a' = mk Bx) := by
  rintro _ W W' row ⟨Bx, h0, h1, h2⟩ hg hr
  refine ⟨Bx, h0, (hg.block Bx (Array.getElem?_eq_some_iff.1 h1).1 (fun e => ?_)).trans h1, h2⟩
  obtain ⟨_, o, ho, hc⟩ := hr Bx e.symm
  rw [h1] at ho
  cases ho
  cases hc

set_option maxRecDepth 100000 in
set_option maxHeartbeats 4000000 in
theorem runsIn_any (gf : Nat) (lb : Array Value) (zs : List Int) (xs : List Sp) (w : World) (hz : zs.length = 64) (hx : xs.length ≤ 64)
    (hgf : ∀ args w, (callFunc gf args).run Try.prog w = .ok (.enter gf args) w)
    (hseq : ∀ W, Below w.heap.size w W → SeqStopsK Fence.wide 9 Try.prog gf lb spE (Below w.heap.size) (fun ys => ys = xs) (fun pre => pre <+: xs) xs.length W) :
    Calls Try.prog 36 #[.agg (pgC zs), .func (.func gf) #[] lb] w fun e w' => ∃ a c A C F, e = .returned (.slice a xs.length c) ∧ Below w.heap.size w w' ∧ OwnS w.heap.size w'.heap.size w' a xs.length (spP xs) A C (spZ zs xs) F := by
  obtain ⟨X, hX, hA, g⟩ := boxed zs w hz
  refine (callsIn_wide (n := 10)).1 ?_
  refine callsIn_of_wp_marks Try.func36 rfl trivial ?_ rfl
  simp only [Try.ntmps36, List.size_toArray, List.length_cons, List.length_nil, Nat.reduceAdd, Nat.reduceSub, Array.replicate_succ, Array.replicate_zero, List.push_toArray, List.append_toArray, List.nil_append, List.cons_append]
  refine wpIn_seq_k fun K hK => ?_
  refine wpIn_wide.2 ?_
  go_wp2_with fail
  have hXs := hA.lt
  refine wpIn_seq_k fun K1 hK1 => ?_
  refine wpIn_wide.2 ?_
  go_wp2_with fail
  generalize hV : World.alloc X _ = V
  have bV : Boxed V X.heap.size 26 (.slice none 0 0) := by rw [← hV]; exact Boxed.new X 26 (.slice none 0 0)
  have gV : Below X.heap.size X V := by rw [← hV]; exact (Below.refl _ _).alloc (Nat.le_refl _) _
  have hAV := hA.grown gV
  have gw : Below w.heap.size w V := g.trans (gV.mono g.size)
  have hXw := g.size
  clear hV gV hA g hX
  generalize X.heap.size = B at bV hXs hXw
  refine wpIn_seq_k fun K2 hK2 => ?_
  refine wpIn_seq_k fun K3 hK3 => ?_
  refine wpIn_wide.2 ?_
  go_wp2_with fail
  refine wpIn_block ?_
  refine wpIn_rangeFunc_ownH (n := 10) rfl (by omega) (gf := gf) (lb := lb) rfl trivial hgf (hseq V gw) belowK_t (belowK_b gw.size) (Below.refl _ _) (fun _ => rfl)
    (RinI w B w.heap.size zs) (fun _ _ _ => False) (rinI_own w B w.heap.size zs (by have := bV.lt; omega)) (fun _ _ _ _ _ hs _ _ => hs) ⟨⟨_, fun _ => 0, fun _ => 0, bV, Blt.nil _ _ _ _ _ _, fun i hi => absurd hi (Nat.not_lt_zero _)⟩, hAV, gw⟩
    (fun x a' W => ∃ Bx, 0 ≤ Bx ∧ W.heap[Bx]? = some (.cells #[.int .u64 (x.1.1 : Nat), .int .u64 (x.1.2 : Nat)] 79 (0, 0)) ∧ a' = { tmps := #[.agg (pgC zs), .func (.func gf) #[] lb, .pointer (some ⟨w.heap.size, 0, none⟩), undef, .slice none 0 0, .pointer (some ⟨B, 0, none⟩), .pointer (some ⟨Bx, 0, none⟩), undef, .func (.func gf) #[] lb, .agg #[.int .u64 (x.1.1 : Nat), .int .u64 (x.1.2 : Nat)], undef, undef, undef, undef, undef, undef, undef, undef, undef, undef, undef, undef, undef, undef, undef, undef, undef, undef, undef], defers := [] })
    (fun x a' => spanBox_own V.heap.size _) ?assign ?body ?done ?stop
  case assign =>
    rintro l pre x W K' hi hK'
    refine roundRegion (fun h => by obtain ⟨_, _, h⟩ := h; exact h) (by kernel_rfl) ?_
    obtain ⟨⟨v, C, F, hv, hb, hn⟩, hA, g⟩ := hi
    have gA : Below W.heap.size W (W.alloc (.cells #[.int .u64 (x.1.1 : Nat), .int .u64 (x.1.2 : Nat)] 79)) := (Below.refl _ W).alloc (Nat.le_refl _) _
    simp only [spE]
    go_wp2_with fail
    exact hK' _ _ ((KeepsOthers.alloc _ _).from _) (gA.mono g.size) ⟨⟨v, C, F, hv.alloc _, hb.below gA, hn⟩, hA.grown gA, g.trans (gA.mono g.size)⟩ ⟨W.heap.size, Nat.zero_le _, World.alloc_heap_new W _, rfl⟩
  case body =>
    rintro l pre x a' W hl hr ⟨⟨v, C, F, hv, hbl, hn⟩, hA, g⟩ ⟨Bx, hBx, hbx, rfl⟩ hlt
    obtain ⟨pp, hpp⟩ : ∃ pp, pp = x.1.1 := ⟨_, rfl⟩
    obtain ⟨m, hmm⟩ : ∃ m, m = x.1.2 := ⟨_, rfl⟩
    obtain ⟨hm1, hpm⟩ := x.2
    rw [← hpp] at hpm hbx ⊢
    rw [← hmm] at hm1 hpm hbx ⊢
    have HX : Hid (spP (pre ++ [x]) pre.length = (pp : Nat) ∧ spZ zs (pre ++ [x]) pre.length = (zs.drop pp).take m) := ⟨by rw [spP_eq, hpp], by rw [spZ_eq, hpp, hmm]⟩
    clear hpp hmm
    obtain ⟨i0, hi, hz0, hz1, hz2⟩ := info5
    obtain ⟨i5, hi5, hz50, hz51, hz52⟩ := info35
    have b0 : W.cell? ⟨Bx, 0, none⟩ = some (.int .u64 (pp : Nat)) := by simp [World.cell?, hbx]
    have b1 : W.cell? ⟨Bx, 1, none⟩ = some (.int .u64 (m : Nat)) := by simp [World.cell?, hbx]
    have hBxW : Bx < W.heap.size := World.block_lt_of_cell? W _ b0
    have hwW : w.heap.size < W.heap.size := hA.lt
    have hlen : pre.length < 64 := by omega
    refine wpIn_block ?_
    refine wpIn_seq_k fun K4 hK4 => ?_
    refine roundRegion (letsOut_then (letsOut_block (fun h => by obtain ⟨_, _, h⟩ := h; exact h))) (by kernel_rfl) ?_
    go_wp2_with (at_make; refine wpList_make_full _ rfl _ _ 22 rfl W.heap.size 5 i0 (.int .u8 0) 1 Try.underlying22 hi hz0 hz1 .u64 .u64 _ _ m rfl rfl rfl rfl ?c1 ?c2 (Nat.le_refl _) ?_)
    case c1 => rw [hz2]; omega
    case c2 => unfold maxLen; omega
    intro w1 hown hg
    have g1 : Below W.heap.size W w1 := Below.grown (Below.refl _ _) hg (Nat.le_refl _) (fun k hk => by cases hk)
    have hrow1 : Row5 w1 W.heap.size m := row5_of hown
    have hlt1 : W.heap.size < w1.heap.size := hrow1.lt
    clear hown hg hi hz0 hz1 hz2
    go_wp2_with fail
    refine wpIn_seq_k fun K5 hK5 => ?_
    have s0 := (g1.cell (p := ⟨Bx, 0, none⟩) hBxW).trans b0
    have s1 := (g1.cell (p := ⟨Bx, 1, none⟩) hBxW).trans b1
    have hA1 := hA.grown g1
    obtain ⟨q, hq⟩ : ∃ q, q = pp + m := ⟨_, rfl⟩
    have HPM : Hid (pp + m = q) := hq.symm
    have hq64 : (q : Int) ≤ 64 := by omega
    have hpq : (pp : Int) ≤ (q : Int) := by omega
    have hql : q - pp = m := by omega
    have hp64 : ¬ (64 = pp) := by omega
    have HCL : Hid (((zs.drop pp).take m).length = m) := by show _ = _; rw [List.length_take, List.length_drop, hz]; omega
    clear hq
    refine roundDrawn (S := fun V' => V'.cell? ⟨Bx, 0, none⟩ = some (.int .u64 (pp : Nat)) ∧ V'.cell? ⟨Bx, 1, none⟩ = some (.int .u64 (m : Nat)) ∧ Arr V' w.heap.size zs) (letsOut_then (letsOut_block (fun h => by obtain ⟨_, _, h⟩ := h; exact h))) (by kernel_rfl) (by kernel_rfl) ⟨s0, s1, hA1.grown (Below.refl _ _).drew⟩ (fun hHeld => ?_)
    have hrow := hrow1.drew
    have gD : Below W.heap.size W w1.drew := g1.drew
    have hsD : W.heap.size < w1.drew.heap.size := hlt1
    generalize w1.drew = D at hHeld hrow gD hsD ⊢
    clear s0 s1 hA1 hrow1 g1 hlt1
    refine wpAnyH_take (i := 0) (v := .slice (some ⟨W.heap.size, 0, none⟩) m m) rfl (by kernel_rfl) (by kernel_rfl) (by kernel_rfl) (fun _ _ _ h => h) (Or.inl ⟨by kernel_rfl, fun u hSw => by (try dsimp only at hSw); go_simp; try with_reducible rfl⟩) hHeld ?_
    try simp only [List.getElem_toArray]
    try simp only [List.getElem_cons_succ]
    try simp only [List.getElem_cons_zero]
    try simp only [Act.put]
    try simp only [List.setIfInBounds_toArray]
    try simp only [List.set]
    refine wpAnyH_take (i := 1) (v := .pointer (some ⟨Bx, 0, none⟩)) rfl (by kernel_rfl) (by kernel_rfl) (by kernel_rfl) (fun _ _ _ h => h) (Or.inl ⟨by kernel_rfl, fun u hSw => by (try dsimp only at hSw); go_simp; try with_reducible rfl⟩) hHeld ?_
    try simp only [List.getElem_toArray]
    try simp only [List.getElem_cons_succ]
    try simp only [List.getElem_cons_zero]
    try simp only [Act.put]
    try simp only [List.setIfInBounds_toArray]
    try simp only [List.set]
    refine wpAnyH_take (i := 2) (v := .int .u64 (pp : Nat)) rfl (by kernel_rfl) (by kernel_rfl) (by kernel_rfl) (fun _ _ _ h => h) (Or.inl ⟨by kernel_rfl, fun u hSw => by (try dsimp only at hSw); go_simp; try with_reducible rfl⟩) hHeld ?_
    try simp only [List.getElem_toArray]
    try simp only [List.getElem_cons_succ]
    try simp only [List.getElem_cons_zero]
    try simp only [Act.put]
    try simp only [List.setIfInBounds_toArray]
    try simp only [List.set]
    refine wpAnyH_take (i := 3) (v := .agg #[.int .u64 (pp : Nat), .int .u64 (m : Nat)]) rfl (by kernel_rfl) (by kernel_rfl) (by kernel_rfl) (fun _ _ _ h => h) (Or.inl ⟨by kernel_rfl, fun u hSw => by (try dsimp only at hSw); go_simp; try with_reducible rfl⟩) hHeld ?_
    try simp only [List.getElem_toArray]
    try simp only [List.getElem_cons_succ]
    try simp only [List.getElem_cons_zero]
    try simp only [Act.put]
    try simp only [List.setIfInBounds_toArray]
    try simp only [List.set]
    refine wpAnyH_ready (rs := [4]) (by kernel_rfl) (by simp) ?_
    refine AllReadyH.cons rfl (fun K hK => ?_) AllReadyH.nil
    go_simp
    go_wp2_with (go_at_call 55; refine (spanEnd_any pp m _ (by omega) (by omega)).mono ?_; rintro e w' ⟨rfl, hb⟩; rw [HPM.out])
    refine hK.out _ _ (spKeep hHeld hb) (fun hHeld => ?_)
    clear hK K
    try simp only [Act.put]
    try simp only [List.setIfInBounds_toArray]
    try simp only [List.set]
    have hrow := hrow.grown hb
    have gD := gD.trans (hb.mono gD.size)
    have hsD : W.heap.size < w'.heap.size := Nat.lt_of_lt_of_le hsD hb.size
    clear hb
    refine wpAnyH_take (i := 5) (v := .slice (some ⟨w.heap.size, pp, none⟩) m (64 - pp)) rfl (by kernel_rfl) (by kernel_rfl) (by kernel_rfl) (fun _ _ _ h => h) (Or.inl ⟨by kernel_rfl, fun u hSw => by (try dsimp only at hSw); go_simp; try with_reducible rfl⟩) hHeld ?_
    try simp only [List.getElem_toArray]
    try simp only [List.getElem_cons_succ]
    try simp only [List.getElem_cons_zero]
    try simp only [Act.put]
    try simp only [List.setIfInBounds_toArray]
    try simp only [List.set]
    refine wpAnyH_ready (rs := [6]) (by kernel_rfl) (by simp) ?_
    refine AllReadyH.cons rfl (fun K hK => ?_) AllReadyH.nil
    rw [if_pos (by kernel_rfl)]
    refine wp_copyRow _ _ rfl W.heap.size m m m ⟨w.heap.size, pp, none⟩ (64 - pp) rfl rfl hrow ((zs.drop pp).take m) HCL.out (Nat.le_refl _) (reads_src (hHeld.2.2.cellReads pp m hpm)) ?_
    intro V' hrowV tV
    refine hK.out _ _ ⟨tV.cell hHeld.1 (.inl hBxW), tV.cell hHeld.2.1 (.inl hBxW), hHeld.2.2.turned tV (.inl hwW)⟩ (fun hHeld => ?_)
    clear hK K
    try simp only [Act.put]
    try simp only [List.setIfInBounds_toArray]
    try simp only [List.set]
    refine wpAnyH_done (by kernel_rfl) ?_ _

    refine hK5 _ _ ?_
    have gV' : Below W.heap.size W V' := gD.trans (tV.toBelow gD.size (Nat.le_refl _))
    have hVs : W.heap.size < V'.heap.size := Nat.lt_of_lt_of_le hsD tV.size
    have hBW := hv.lt
    have hv' : Boxed V' B 26 v := (gV'.block B hBW).trans hv
    have hbl' := hbl.below gV'
    obtain ⟨s0, s1, hA'⟩ := hHeld
    have hc := hv'.cell
    clear hrow gD hsD tV hA hK5
    have gT : ∀ o, Below V'.heap.size V' (V'.alloc o) := fun o => (Below.refl _ _).alloc (Nat.le_refl _) _
    have hown0 : ∀ k', v.ownBlock = some k' → k' < W.heap.size := fun k' e => (hbl.row.lt k' e).2
    obtain ⟨T, hT⟩ : ∃ T : Obj, T = .cells #[.int .i64 (pp : Nat), .slice (some ⟨W.heap.size, 0, none⟩) m m] 35 := ⟨_, rfl⟩
    refine roundRegion (letsOut_block (fun h => by obtain ⟨_, _, h⟩ := h; exact h)) (by kernel_rfl) ?_
    go_wp2_with (at_builtin; refine wpList_append_own _ rfl _ _ 26 rfl w.heap.size 35 i5 (.agg #[.int .i64 0, .slice none 0 0]) 2 32 Try.underlying26 hi5 hz50 hz51 hz52 rfl (by decide) _ _ _ rfl (hbl'.row.alloc _) ⟨V'.heap.size, 0, none⟩ 1 1 [.int .i64 (pp : Nat), .slice (some ⟨W.heap.size, 0, none⟩) m m] rfl rfl ?n1 ?n2 ?n3 ?n4 ?n5 ?_)
    case n1 =>
      intro j u hu
      match j, hu with
      | 0, hu => simp at hu; subst hu; simp [go_sem, Addr.add]
      | 1, hu => simp at hu; subst hu; simp [go_sem, Addr.add]
    case n2 =>
      intro u hu
      simp at hu
      rcases hu with rfl | rfl <;> rfl
    case n3 => unfold maxLen; omega
    case n4 => omega
    case n5 => simp; omega
    intro v' w6 hown' hgrow _
    obtain ⟨g', cap', rfl⟩ := ownsRow_succ hown'
    obtain ⟨hv1, hv2, hr2, hk2, hb2⟩ := hv'.appended (by decide) hbl'.row (by omega) (by omega) hown' hgrow
    have hc1 := hv1.cell
    have hf1 := hv1.frozen
    have hblF : Blt w.heap.size w6 (.slice (some ⟨g', 0, none⟩) (pre.length + 1) cap') (pre.length + 1) (spP (pre ++ [x])) (fun i => if i = pre.length then m else C i) (spZ zs (pre ++ [x])) (fun i => if i = pre.length then W.heap.size else F i) := by
      have hce : ∀ i, i < pre.length → spP pre i = spP (pre ++ [x]) i ∧ C i = (if i = pre.length then m else C i) ∧ spZ zs pre i = spZ zs (pre ++ [x]) i ∧ F i = (if i = pre.length then W.heap.size else F i) := fun i hi => ⟨(spP_lt pre x i hi).symm, by rw [if_neg (by omega)], (spZ_lt zs pre x i hi).symm, by rw [if_neg (by omega)]⟩
      refine ((hbl'.below (gT _)).congr hce).append (v' := .slice (some ⟨g', 0, none⟩) (pre.length + 1) cap') ?_ hgrow ?_ ?_ ?_ ?_ ?_ ?_
      · rw [← rcells_congr pre.length hce]
        simp only [if_true]
        rw [HX.out.1, HX.out.2, HCL.out]
        exact hown'
      · simp only [if_true]
        rw [HX.out.2]
        exact hrowV.below (gT _)
      · rw [HX.out.2]
        intro e
        have := HCL.out
        rw [e] at this
        simp at this
        omega
      · simp only [if_true]; omega
      · simp only [if_true]; simp; omega
      · intro i hi
        simp only [if_true, if_neg (show ¬ i = pre.length by omega)]
        exact (hbl.fr i hi).2
      · simp only [if_true]
        intro e
        have := hown0 _ e.symm
        omega
    go_wp2_with fail
    refine ⟨((keeps_below gV').trans hk2).from _, (gV'.mono (by omega)).trans hb2, ⟨_, fun i => if i = pre.length then m else C i, fun i => if i = pre.length then W.heap.size else F i, hv2, ?_, ?_⟩, ?_, ?_⟩
    · rw [List.length_append]
      refine hblF.set hv1 (by decide) (fun i hi => ?_) _
      by_cases e : i = pre.length
      · rw [if_pos e]; omega
      · rw [if_neg e]; exact hn i (by omega)
    · intro i hi
      rw [List.length_append] at hi
      simp only [List.length_cons, List.length_nil] at hi
      show (if i = pre.length then W.heap.size else F i) ≠ B
      by_cases e : i = pre.length
      · rw [if_pos e]; omega
      · rw [if_neg e]; exact hn i (by omega)
    · have hne : some w.heap.size ≠ v.ownBlock := arr_not_row hA' hbl'.row
      have hA6 : Arr w6 w.heap.size zs := by
        have h0 := hA'.alloc (.cells #[.int .i64 (pp : Nat), .slice (some ⟨W.heap.size, 0, none⟩) m m] 35)
        exact ⟨h0.len, (hgrow.block _ h0.lt hne).trans h0.row⟩
      refine hA6.other _ _ ?_
      intro e
      have h1 := hA6.row
      rw [← show B = w.heap.size from e, show w6.heap[B]? = _ from hv1] at h1
      have h2 : (26 : TypeId) = 58 := by injection h1 with h1; injection h1
      exact absurd h2 (by decide)
    · exact g.trans ((gV'.mono (by omega)).trans hb2)
  case done =>
    rintro D ys W hD rfl ⟨⟨v, C, F, hv, hbl, hn⟩, hA, g⟩ hKD
    have hc := hv.cell
    refine hK2 _ _ ?_
    refine wpIn_seq_k fun K7 hK7 => ?_
    refine wpIn_wide.2 ?_
    obtain ⟨a0, c0, rfl, ho⟩ := hbl.own
    go_wp2_with fail
    refine wpIn_ret ?_
    have hblF := hbl.kept (grownBy_putObj' W D (.deferred none)) (fun r e => by cases e; exact ⟨_, hKD, rfl⟩)
    obtain ⟨a1, c1, e1, ho1⟩ := hblF.own
    have hVD := gw.size
    refine ⟨by simp, .inl ⟨_, _, rfl, run_takeDeferred hKD, ?_⟩⟩
    refine ⟨_, results_tmp rfl _ _ _, a1, c1, _, C, F, by rw [← e1]; rfl, g.trans (belowK_b (w := w) (Nat.le_refl _) W D _ _ (by omega) hKD rfl rfl), ho1⟩
  case stop =>
    rintro D c pre W _ _ h _
    exact h.elim

end Go.Proofs.Ytpoccjlngbdjlaa
