/-
  slices.AppendSeq, Collect over keys.
-/
import Derived.Test.YtcadkclppejdgaaSKyi
import Derived.Maps.AppendAt
import Derived.Deep.RegionWith
import Derived.Shelf.SlSortCmp.WholeK
import Derived.Ground.SlsfProg
import Derived.Test.YtcadkclppejdgaaProg

namespace Go.Proofs.Ytcadkclppejdgaa
open Go.RowKit Go.Maps Go.Shelf
set_option linter.unusedVariables false

def k2F (x : K2) : List Value := [.int .i64 x.x, .int .i64 x.y]
theorem k2F_len (x : K2) : (k2F x).length = 2 := rfl
theorem infoK' : (Try.prog.info? 73).map (fun i => (i.zero, i.size, i.bytes)) = some (some (.agg #[.int .i64 0, .int .i64 0]), 2, 16) := by kernel_rfl
theorem infoK : ∃ i, Try.prog.info? 73 = some i ∧ i.zero = some (.agg #[.int .i64 0, .int .i64 0]) ∧ i.size = 2 ∧ i.bytes = 16 := by
  have h := infoK'
  cases hi : Try.prog.info? 73 with
  | none => rw [hi] at h; simp at h
  | some i => rw [hi] at h; simp at h; exact ⟨i, rfl, h.1, h.2.1, h.2.2⟩

/-- What a round finds. -/
def ApI (w : World) (B : Nat) (pre : List K2) (W : World) : Prop := (∃ v, Boxed W B 70 v ∧ W.ownsRow w.heap.size 73 2 v pre.length (flat k2F pre)) ∧ Below w.heap.size w W

theorem ownsRow_other {W W' : World} {base e size n : Nat} {v : Value} {xs : List Value} (h : W.ownsRow base e size v n xs) {row : Option Nat} (hg : W.grownBy W' row) (hr : ∀ r, row = some r → ∃ o : Obj, W.heap[r]? = some o ∧ o.isCells = false) : W'.ownsRow base e size v n xs := by
  obtain ⟨hl, h1 | ⟨g, cap, cur, rfl, hbb, hc, r⟩⟩ := h
  · exact ⟨hl, .inl h1⟩
  · refine ⟨hl, .inr ⟨g, cap, cur, rfl, hbb, (hg.block g (Array.getElem?_eq_some_iff.1 hc).1 (fun e => ?_)).trans hc, r⟩⟩
    obtain ⟨o, ho, hcc⟩ := hr g e.symm
    rw [hc] at ho
    cases ho
    cases hcc

theorem apI_own (w : World) (B : Nat) {D : Nat} (hD : w.heap.size ≤ D) : OwnFrom D (ApI w B) := by
  rintro pre W W' row ⟨⟨v, hv, hb⟩, g⟩ hg hr
  have hr' : ∀ r, row = some r → ∃ o : Obj, W.heap[r]? = some o ∧ o.isCells = false := fun r e => (hr r e).2
  refine ⟨⟨v, hv.kept hg (fun e => ?_), ownsRow_other hb hg hr'⟩, g.grown hg (Nat.le_trans (Nat.le_refl _) g.size) (fun k e => Nat.le_trans hD (hr k e).1)⟩
  obtain ⟨o, ho, hc⟩ := hr' B e.symm
  rw [show W.heap[B]? = _ from hv] at ho
  cases ho
  cases hc

theorem keyBox_own (D : Nat) {x : K2} {a' : Act} (mk : Nat → Act) {L : Nat} : OwnFrom D (fun (_ : Unit) W => ∃ Bx, L ≤ Bx ∧ W.heap[Bx]? = some (.cells #[.int .i64 x.x, .int .i64 x.y] 73 (0, 0)) ∧ a' = mk Bx) := by
  rintro _ W W' row ⟨Bx, h0, h1, h2⟩ hg hr
  refine ⟨Bx, h0, (hg.block Bx (Array.getElem?_eq_some_iff.1 h1).1 (fun e => ?_)).trans h1, h2⟩
  obtain ⟨_, o, ho, hc⟩ := hr Bx e.symm
  rw [h1] at ho
  cases ho
  cases hc

theorem walks_of {W W' : World} (h : KeepsOthers W W') : KeepsWalks W W' := ⟨h.size, fun k o hk hw => h.same k o hk (Obj.not_cells_of_walk hw)⟩

set_option maxRecDepth 100000 in
set_option maxHeartbeats 4000000 in
theorem appendSeq_any (gf : Nat) (lb : Array Value) (S : List K2 → Prop) (N : Nat) (w : World) (hN : N ≤ 100000)
    (hgf : ∀ args w, (callFunc gf args).run Try.prog w = .ok (.enter gf args) w)
    (hseq : ∀ W, Below w.heap.size w W → SeqStops Fence.wide 9 Try.prog gf lb k2E S (fun _ => True) N W) :
    Calls Try.prog 128 #[.slice none 0 0, .func (.func gf) #[] lb] w fun e w' => ∃ v ss, e = .returned v ∧ S ss ∧ Below w.heap.size w w' ∧ w'.ownsRow w.heap.size 73 2 v ss.length (flat k2F ss) := by
  obtain ⟨i5, hi5, hz50, hz51, hz52⟩ := infoK
  refine (callsIn_wide (n := 10)).1 ?_
  refine callsIn_of_wp_marks Try.func128 rfl trivial ?_ rfl
  simp only [Try.ntmps128, List.size_toArray, List.length_cons, List.length_nil, Nat.reduceAdd, Nat.reduceSub, Array.replicate_succ, Array.replicate_zero, List.push_toArray, List.append_toArray, List.nil_append, List.cons_append]
  refine wpIn_seq_k fun K hK => ?_
  refine wpIn_wide.2 ?_
  go_wp2_with fail
  generalize hV : World.alloc w _ = V
  have bV : Boxed V w.heap.size 70 (.slice none 0 0) := by rw [← hV]; exact Boxed.new w 70 (.slice none 0 0)
  have gw : Below w.heap.size w V := by rw [← hV]; exact (Below.refl _ _).alloc (Nat.le_refl _) _
  clear hV
  refine wpIn_seq_k fun K2' hK2 => ?_
  refine wpIn_seq_k fun K3 hK3 => ?_
  refine wpIn_wide.2 ?_
  go_wp2_with fail
  refine wpIn_block ?_
  have hB := bV.lt
  refine wpIn_rangeFunc_ownH (n := 10) rfl (by omega) (gf := gf) (lb := lb) rfl trivial hgf (encs := fun x => #[k2E x]) (Kp := KeepsWalks) (hseq V gw) walksK_t walksK_b (Below.refl _ _) (fun _ => rfl)
    (ApI w w.heap.size) (fun _ _ _ => False) (apI_own w w.heap.size gw.size) (fun _ _ _ _ _ hs _ _ => hs) ⟨⟨_, bV, ownsRow_nil _ _ _ _⟩, gw⟩
    (fun x a' W => ∃ Bx, 0 ≤ Bx ∧ W.heap[Bx]? = some (.cells #[.int .i64 x.x, .int .i64 x.y] 73 (0, 0)) ∧ a' = { tmps := #[.slice none 0 0, .func (.func gf) #[] lb, .pointer (some ⟨w.heap.size, 0, none⟩), undef, .slice none 0 0, .pointer (some ⟨Bx, 0, none⟩), .func (.func gf) #[] lb, .agg #[.int .i64 x.x, .int .i64 x.y], undef, undef, undef, undef, undef], defers := [] })
    (fun x a' => keyBox_own V.heap.size _) ?assign ?body ?done ?stop
  case assign =>
    rintro l pre x W K' hi hK'
    refine roundRegion (fun h => by obtain ⟨_, _, h⟩ := h; exact h) (by kernel_rfl) ?_
    obtain ⟨⟨v, hv, hb⟩, g⟩ := hi
    have gA : Below W.heap.size W (W.alloc (.cells #[.int .i64 x.x, .int .i64 x.y] 73)) := (Below.refl _ W).alloc (Nat.le_refl _) _
    simp only [k2E]
    go_wp2_with fail
    exact hK' _ _ ((KeepsOthers.alloc _ _).from _) (KeepsWalks.alloc _ _) ⟨⟨v, hv.alloc _, ownsRow_below hb gA⟩, g.trans (gA.mono g.size)⟩ ⟨W.heap.size, Nat.zero_le _, World.alloc_heap_new W _, rfl⟩
  case body =>
    rintro l pre x a' W hl hr ⟨⟨v, hv, hrow⟩, g⟩ ⟨Bx, hBx, hbx, rfl⟩ hlt
    have b0 : W.cell? ⟨Bx, 0, none⟩ = some (.int .i64 x.x) := by simp [World.cell?, hbx]
    have b1 : W.cell? ⟨Bx, 1, none⟩ = some (.int .i64 x.y) := by simp [World.cell?, hbx]
    have hc := hv.cell
    have hgs := g.size
    refine wpIn_block ?_
    refine roundRegion (letsOut_block (fun h => by obtain ⟨_, _, h⟩ := h; exact h)) (by kernel_rfl) ?_
    go_wp2_with (at_builtin; refine wpList_append_own _ rfl _ _ 70 rfl w.heap.size 73 i5 (.agg #[.int .i64 0, .int .i64 0]) 2 16 Try.underlying70 hi5 hz50 hz51 hz52 rfl (by decide) _ _ _ rfl (hrow.alloc _) ⟨W.heap.size, 0, none⟩ 1 1 (k2F x) rfl rfl ?n1 ?n2 ?n3 ?n4 ?n5 ?_)
    case n1 => exact cells_new _ _ _
    case n2 => intro u hu; simp [k2F] at hu; rcases hu with rfl | rfl <;> rfl
    case n3 => unfold maxLen; omega
    case n4 => omega
    case n5 => simp; omega
    intro v' w6 hown' hgrow _
    obtain ⟨g', cap', rfl⟩ := ownsRow_succ hown'
    obtain ⟨hv1, hv2, hr2, hk2, hb2⟩ := hv.appended (by decide) hrow hgs (Nat.le_refl _) hown' hgrow
    have hc1 := hv1.cell
    have hf1 := hv1.frozen
    go_wp2_with fail
    refine ⟨hk2.from _, walks_of hk2, ⟨_, hv2, ?_⟩, g.trans hb2⟩
    rw [List.length_append, flat_append, flat_one]
    exact hr2
  case done =>
    rintro D ys W hD hS ⟨⟨v, hv, hrow⟩, g⟩ hKD
    have hc := hv.cell
    refine hK2 _ _ ?_
    refine wpIn_seq_k fun K7 hK7 => ?_
    refine wpIn_wide.2 ?_
    obtain ⟨a0, c0, rfl, _, _, _⟩ := SlIn.ofRow k2F_len hrow
    go_wp2_with fail
    refine wpIn_ret ?_
    have hrowF := ownsRow_other hrow (grownBy_putObj' W D (.deferred none)) (fun r e => by cases e; exact ⟨_, hKD, rfl⟩)
    have hVD := gw.size
    refine ⟨by simp, .inl ⟨_, _, rfl, run_takeDeferred hKD, ?_⟩⟩
    exact ⟨_, results_tmp rfl _ _ _, .slice a0 ys.length c0, ys, by rfl, hS, g.trans (belowK_b (w := w) (Nat.le_refl _) W D _ _ (by omega) hKD rfl rfl), hrowF⟩
  case stop =>
    rintro D c pre W _ _ h _
    exact h.elim

set_option maxHeartbeats 400000 in
theorem collect_any (gf : Nat) (lb : Array Value) (S : List K2 → Prop) (N : Nat) (w : World) (hN : N ≤ 100000)
    (hgf : ∀ args w, (callFunc gf args).run Try.prog w = .ok (.enter gf args) w)
    (hseq : ∀ W, Below w.heap.size w W → SeqStops Fence.wide 9 Try.prog gf lb k2E S (fun _ => True) N W) :
    Calls Try.prog 106 #[.func (.func gf) #[] lb] w fun e w' => ∃ v ss, e = .returned v ∧ S ss ∧ Below w.heap.size w w' ∧ w'.ownsRow w.heap.size 73 2 v ss.length (flat k2F ss) := by
  go_enter Try.func106, Try.ntmps106
  go_wp2_with fail
  refine (appendSeq_any gf lb S N _ hN hgf hseq).mono ?_
  rintro e w1 ⟨v, ss, rfl, hS, g, ho⟩
  go_wp2_with fail
  go_ret
  exact ⟨v, ss, rfl, hS, g, ho⟩

set_option maxHeartbeats 400000 in
theorem keysP_box (b : Nat) (w : World) : Calls Try.prog 83 #[.map (some b)] w fun e w' => e = .returned (.func (.func 108) #[] #[.pointer (some ⟨w.heap.size, 0, none⟩)]) ∧ Below w.heap.size w w' ∧ w'.cell? ⟨w.heap.size, 0, none⟩ = some (.map (some b)) := by
  go_enter Try.func83, Try.ntmps83
  go_wp2_with fail
  go_ret
  exact ⟨rfl, by go_grown, by simp [go_sem]⟩

end Go.Proofs.Ytcadkclppejdgaa

/-
  compareKeys: the one order of keys, and what its calls lay in memory.
-/
namespace Go.Proofs.Ytcadkclppejdgaa
open Go.RowKit Go.Sort
set_option linter.unusedVariables false

def cpI (x y : Int) : Int := if x < y then -1 else if y < x then 1 else 0
def orI (x y : Int) : Int := if x = 0 then y else x
def cpK (a b : K2) : Int := orI (cpI a.x b.x) (cpI a.y b.y)

set_option maxHeartbeats 400000 in
theorem nan_any (x : Int) (w : World) : Calls Try.prog 131 #[.int .i64 x] w fun e w' => e = .returned (.bool false) ∧ w' = w := by
  go_enter Try.func131, Try.ntmps131
  go_wp2
  go_ret
  exact ⟨by simp, rfl⟩

set_option maxHeartbeats 400000 in
theorem compare_any (x y : Int) (w : World) : Calls Try.prog 110 #[.int .i64 x, .int .i64 y] w fun e w' => e = .returned (.int .i64 (cpI x y)) ∧ w' = w := by
  by_cases h1 : x < y
  · have e : cpI x y = -1 := by unfold cpI; simp [h1]
    rw [e]
    clear e
    go_enter Try.func110, Try.ntmps110
    go_wp2_with (go_at_call 131; refine (nan_any _ _).mono ?_; rintro e w' ⟨rfl, rfl⟩)
    go_ret
    exact ⟨rfl, rfl⟩
  · by_cases h2 : y < x
    · have e : cpI x y = 1 := by unfold cpI; simp [h1, h2]
      rw [e]
      clear e
      go_enter Try.func110, Try.ntmps110
      go_wp2_with (go_at_call 131; refine (nan_any _ _).mono ?_; rintro e w' ⟨rfl, rfl⟩)
      go_ret
      exact ⟨rfl, rfl⟩
    · have e : cpI x y = 0 := by unfold cpI; simp [h1, h2]
      rw [e]
      clear e
      go_enter Try.func110, Try.ntmps110
      go_wp2_with (go_at_call 131; refine (nan_any _ _).mono ?_; rintro e w' ⟨rfl, rfl⟩)
      go_ret
      exact ⟨rfl, rfl⟩

set_option maxHeartbeats 400000 in
theorem or_any (b : Nat) (x y : Int) (w : World) (h0 : w.cell? ⟨b, 0, none⟩ = some (.int .i64 x)) (h1 : w.cell? ⟨b, 1, none⟩ = some (.int .i64 y)) :
    Calls Try.prog 109 #[.slice (some ⟨b, 0, none⟩) 2 2] w fun e w' => e = .returned (.int .i64 (orI x y)) ∧ w' = w := by
  by_cases hx : x = 0
  · subst hx
    by_cases hy : y = 0
    · subst hy
      have e : orI 0 0 = 0 := rfl
      rw [e]
      clear e
      go_enter Try.func109, Try.ntmps109
      go_wp2_with fail
      refine wp_loop_rounds 3 ?_
      rw [rounds_succ]
      go_wp2_with fail
      rw [rounds_succ]
      go_wp2_with fail
      rw [rounds_succ]
      go_wp2_with fail
      go_ret
      exact ⟨rfl, rfl⟩
    · have e : orI 0 y = y := rfl
      rw [e]
      clear e
      go_enter Try.func109, Try.ntmps109
      go_wp2_with fail
      refine wp_loop_rounds 3 ?_
      rw [rounds_succ]
      go_wp2_with fail
      rw [rounds_succ]
      go_wp2_with fail
      go_ret
      exact ⟨rfl, rfl⟩
  · have e : orI x y = x := by unfold orI; simp [hx]
    rw [e]
    clear e
    go_enter Try.func109, Try.ntmps109
    go_wp2_with fail
    refine wp_loop_rounds 3 ?_
    rw [rounds_succ]
    go_wp2_with fail
    go_ret
    exact ⟨rfl, rfl⟩

structure CkS (x y : Nat) (a0 a1 b0 b1 : Int) (V : World) : Prop where
  s0 : V.cell? ⟨x, 0, none⟩ = some (.int .i64 a0)
  s1 : V.cell? ⟨x, 1, none⟩ = some (.int .i64 a1)
  s2 : V.cell? ⟨y, 0, none⟩ = some (.int .i64 b0)
  s3 : V.cell? ⟨y, 1, none⟩ = some (.int .i64 b1)
theorem CkS.alloc {x y : Nat} {a0 a1 b0 b1 : Int} {V : World} (h : CkS x y a0 a1 b0 b1 V) (o : Obj) : CkS x y a0 a1 b0 b1 (V.alloc o) := by
  obtain ⟨h0, h1, h2, h3⟩ := h
  refine ⟨?_, ?_, ?_, ?_⟩
  · rw [World.cell?_alloc_some _ _ _ (by rw [h0]; rfl)]; exact h0
  · rw [World.cell?_alloc_some _ _ _ (by rw [h1]; rfl)]; exact h1
  · rw [World.cell?_alloc_some _ _ _ (by rw [h2]; rfl)]; exact h2
  · rw [World.cell?_alloc_some _ _ _ (by rw [h3]; rfl)]; exact h3

set_option maxRecDepth 20000 in
set_option maxHeartbeats 1000000 in
theorem compareKeys_at (a0 a1 b0 b1 : Int) (W : World) : Calls Try.prog 84 #[.agg #[.int .i64 a0, .int .i64 a1], .agg #[.int .i64 b0, .int .i64 b1]] W fun e w' => e = .returned (.int .i64 (orI (cpI a0 b0) (cpI a1 b1))) ∧ ∃ q os', w' = grow (W.drewN q) os' := by
  have HV : Hid (CkS W.heap.size (W.heap.size + 1) a0 a1 b0 b1 ((W.alloc (.cells #[.int .i64 a0, .int .i64 a1] 73)).alloc (.cells #[.int .i64 b0, .int .i64 b1] 73))) := by
    constructor <;> simp [go_sem]
  have HG : Hid (∃ os, ((W.alloc (.cells #[.int .i64 a0, .int .i64 a1] 73)).alloc (.cells #[.int .i64 b0, .int .i64 b1] 73)) = grow W os) := ⟨_, by rw [alloc_eq_grow, alloc_eq_grow, grow_grow]⟩
  go_enter Try.func84, Try.ntmps84
  go_upto_region 1 with (fail)
  generalize (W.alloc (.cells #[.int .i64 a0, .int .i64 a1] 73)).alloc (.cells #[.int .i64 b0, .int .i64 b1] 73) = V at HV HG ⊢
  generalize W.heap.size + 1 = y0 at HV ⊢
  generalize W.heap.size = x0 at HV ⊢
  have hS0 : CkS x0 y0 a0 a1 b0 b1 V.drew := ⟨HV.out.s0, HV.out.s1, HV.out.s2, HV.out.s3⟩
  refine wp_region_held_drew (S := CkS x0 y0 a0 a1 b0 b1) (by kernel_rfl) hS0 (fun hHeld => ?_)
  refine wpAnyH_take (i := 0) (v := ?v1) rfl (by kernel_rfl) (by kernel_rfl) (by kernel_rfl) (fun _ _ _ h => h) (Or.inl ⟨by kernel_rfl, ?h1⟩) hHeld ?_
  case h1 => intro u hSw; obtain ⟨s0, s1, s2, s3⟩ := hSw; go_simp; try with_reducible rfl
  try simp only [List.getElem_toArray]
  try simp only [List.getElem_cons_succ]
  try simp only [List.getElem_cons_zero]
  try simp only [Act.put]
  try simp only [List.setIfInBounds_toArray]
  try simp only [List.set]
  refine wpAnyH_take (i := 2) (v := ?v2) rfl (by kernel_rfl) (by kernel_rfl) (by kernel_rfl) (fun _ _ _ h => h) (Or.inl ⟨by kernel_rfl, ?h2⟩) hHeld ?_
  case h2 => intro u hSw; obtain ⟨s0, s1, s2, s3⟩ := hSw; go_simp; try with_reducible rfl
  try simp only [List.getElem_toArray]
  try simp only [List.getElem_cons_succ]
  try simp only [List.getElem_cons_zero]
  try simp only [Act.put]
  try simp only [List.setIfInBounds_toArray]
  try simp only [List.set]
  refine wpAnyH_take (i := 5) (v := ?v3) rfl (by kernel_rfl) (by kernel_rfl) (by kernel_rfl) (fun _ _ _ h => h) (Or.inl ⟨by kernel_rfl, ?h3⟩) hHeld ?_
  case h3 => intro u hSw; obtain ⟨s0, s1, s2, s3⟩ := hSw; go_simp; try with_reducible rfl
  try simp only [List.getElem_toArray]
  try simp only [List.getElem_cons_succ]
  try simp only [List.getElem_cons_zero]
  try simp only [Act.put]
  try simp only [List.setIfInBounds_toArray]
  try simp only [List.set]
  refine wpAnyH_take (i := 7) (v := ?v4) rfl (by kernel_rfl) (by kernel_rfl) (by kernel_rfl) (fun _ _ _ h => h) (Or.inl ⟨by kernel_rfl, ?h4⟩) hHeld ?_
  case h4 => intro u hSw; obtain ⟨s0, s1, s2, s3⟩ := hSw; go_simp; try with_reducible rfl
  try simp only [List.getElem_toArray]
  try simp only [List.getElem_cons_succ]
  try simp only [List.getElem_cons_zero]
  try simp only [Act.put]
  try simp only [List.setIfInBounds_toArray]
  try simp only [List.set]
  refine wpAnyH_take (i := 1) (v := ?v5) rfl (by kernel_rfl) (by kernel_rfl) (by kernel_rfl) (fun _ _ _ h => h) (Or.inl ⟨by kernel_rfl, ?h5⟩) hHeld ?_
  case h5 => intro u hSw; obtain ⟨s0, s1, s2, s3⟩ := hSw; go_simp; try with_reducible rfl
  try simp only [List.getElem_toArray]
  try simp only [List.getElem_cons_succ]
  try simp only [List.getElem_cons_zero]
  try simp only [Act.put]
  try simp only [List.setIfInBounds_toArray]
  try simp only [List.set]
  refine wpAnyH_take (i := 3) (v := ?v6) rfl (by kernel_rfl) (by kernel_rfl) (by kernel_rfl) (fun _ _ _ h => h) (Or.inl ⟨by kernel_rfl, ?h6⟩) hHeld ?_
  case h6 => intro u hSw; obtain ⟨s0, s1, s2, s3⟩ := hSw; go_simp; try with_reducible rfl
  try simp only [List.getElem_toArray]
  try simp only [List.getElem_cons_succ]
  try simp only [List.getElem_cons_zero]
  try simp only [Act.put]
  try simp only [List.setIfInBounds_toArray]
  try simp only [List.set]
  refine wpAnyH_take (i := 6) (v := ?v7) rfl (by kernel_rfl) (by kernel_rfl) (by kernel_rfl) (fun _ _ _ h => h) (Or.inl ⟨by kernel_rfl, ?h7⟩) hHeld ?_
  case h7 => intro u hSw; obtain ⟨s0, s1, s2, s3⟩ := hSw; go_simp; try with_reducible rfl
  try simp only [List.getElem_toArray]
  try simp only [List.getElem_cons_succ]
  try simp only [List.getElem_cons_zero]
  try simp only [Act.put]
  try simp only [List.setIfInBounds_toArray]
  try simp only [List.set]
  refine wpAnyH_take (i := 8) (v := ?v8) rfl (by kernel_rfl) (by kernel_rfl) (by kernel_rfl) (fun _ _ _ h => h) (Or.inl ⟨by kernel_rfl, ?h8⟩) hHeld ?_
  case h8 => intro u hSw; obtain ⟨s0, s1, s2, s3⟩ := hSw; go_simp; try with_reducible rfl
  try simp only [List.getElem_toArray]
  try simp only [List.getElem_cons_succ]
  try simp only [List.getElem_cons_zero]
  try simp only [Act.put]
  try simp only [List.setIfInBounds_toArray]
  try simp only [List.set]
  refine wpAnyH_ready (rs := [4]) (by kernel_rfl) (by simp) ?_
  refine AllReadyH.cons rfl (fun K hK => ?_) AllReadyH.nil
  go_simp
  go_wp2_with (go_at_call 110; refine (compare_any a0 b0 _).mono ?_; rintro e w' ⟨rfl, rfl⟩)
  refine hK.out _ _ (hHeld) (fun hHeld => ?_)
  clear hK K
  try simp only [Act.put]
  try simp only [List.setIfInBounds_toArray]
  try simp only [List.set]
  refine wpAnyH_ready (rs := [9]) (by kernel_rfl) (by simp) ?_
  refine AllReadyH.cons rfl (fun K hK => ?_) AllReadyH.nil
  go_simp
  go_wp2_with (go_at_call 110; refine (compare_any a1 b1 _).mono ?_; rintro e w' ⟨rfl, rfl⟩)
  refine hK.out _ _ (hHeld) (fun hHeld => ?_)
  clear hK K
  try simp only [Act.put]
  try simp only [List.setIfInBounds_toArray]
  try simp only [List.set]
  refine wpAnyH_ready (rs := [10]) (by kernel_rfl) (by simp) ?_
  refine AllReadyH.cons rfl (fun K hK => ?_) AllReadyH.nil
  go_simp
  go_wp2_with (fail)
  refine hK.out _ _ (hHeld.alloc _) (fun hHeld => ?_)
  clear hK K
  try simp only [Act.put]
  try simp only [List.setIfInBounds_toArray]
  try simp only [List.set]
  refine wpAnyH_ready (rs := [11]) (by kernel_rfl) (by simp) ?_
  refine AllReadyH.cons rfl (fun K hK => ?_) AllReadyH.nil
  go_simp
  go_wp2_with (go_at_call 109; refine (or_any _ (cpI a0 b0) (cpI a1 b1) _ ?c0 ?c1).mono ?_; rotate_left 2; rintro e w' ⟨rfl, rfl⟩)
  case c0 => show (V.alloc _).cell? ⟨V.heap.size, 0, none⟩ = _; unfold World.cell?; rw [World.alloc_heap_new]; rfl
  case c1 => show (V.alloc _).cell? ⟨V.heap.size, 1, none⟩ = _; unfold World.cell?; rw [World.alloc_heap_new]; rfl
  refine hK.out _ _ (hHeld) (fun hHeld => ?_)
  clear hK K
  try simp only [Act.put]
  try simp only [List.setIfInBounds_toArray]
  try simp only [List.set]
  refine wpAnyH_take (i := 12) (v := ?v9) rfl (by kernel_rfl) (by kernel_rfl) (by kernel_rfl) (fun _ _ _ h => h) (Or.inl ⟨by kernel_rfl, ?h9⟩) hHeld ?_
  case h9 => intro u hSw; obtain ⟨s0, s1, s2, s3⟩ := hSw; go_simp; try with_reducible rfl
  try simp only [List.getElem_toArray]
  try simp only [List.getElem_cons_succ]
  try simp only [List.getElem_cons_zero]
  try simp only [Act.put]
  try simp only [List.setIfInBounds_toArray]
  try simp only [List.set]
  refine wpAnyH_done (by kernel_rfl) ?_ _
  go_wp2_with fail
  go_ret
  obtain ⟨os, hos⟩ := HG.out
  refine ⟨rfl, 1, os ++ #[.cells #[.int .i64 (cpI a0 b0), .int .i64 (cpI a1 b1)] 3], ?_⟩
  subst hos
  rw [alloc_eq_grow, grow_grow]
  rfl

theorem compareKeys_any (a b : K2) (W : World) : Calls Try.prog 84 #[.agg #[.int .i64 a.x, .int .i64 a.y], .agg #[.int .i64 b.x, .int .i64 b.y]] W fun e w' => e = .returned (.int .i64 (cpK a b)) ∧ ∃ q os', w' = grow (W.drewN q) os' := compareKeys_at a.x a.y b.x b.y W

end Go.Proofs.Ytcadkclppejdgaa

/-
  DERIVED: THE SHELF's CONTRACTS AT THIS DUMP, IN PLAIN WORDS (tools/lay-plain.mjs out of 'YtcadkclppejdgaaShf.lean', which tools/lay-shelf.mjs wrote): THE SAME DECLARATIONS UNDER THE SAME NAMES: 'import', 'namespace', 'open', 'def', 'theorem' AND NOTHING ELSE: no command of the shelf's: FOR A HAND-IN. Each laying: the table of numbers ('.._ren') and one theorem, a field a fact of the dump's own or the kernel's comparison; each contract: ONE APPLICATION.
-/
namespace Go.Proofs
open Go.Shelf
def Try.sortK_ren : Go.Shelf.Ren := ⟨fun | 6 => 107 | 15 => 130 | 14 => 129 | 28 => 145 | 29 => 146 | 20 => 137 | 21 => 138 | 22 => 139 | 23 => 140 | 24 => 141 | 25 => 142 | 26 => 143 | 27 => 144 | 46 => 151 | 47 => 152 | 48 => 153 | 49 => 154 | 50 => 155 | 57 => 156 | n => n, fun | 22 => 70 | 24 => 73 | 25 => 124 | 3 => 3 | 39 => 170 | 0 => 0 | 53 => 194 | 55 => 196 | 4 => 4 | 46 => 187 | 45 => 186 | 50 => 191 | 5 => 5 | 9 => 9 | 66 => 198 | 70 => 202 | 76 => 205 | 77 => 206 | n => n, fun | n => n⟩
theorem Try.sortK : Go.Proofs.SlLaysF0.n6 Try.prog Try.sortK_ren := {
  mixed := by kernel_rfl
  f6 := ⟨Try.f107.name, by decide, Try.func107.trans (congrArg some (by kernel_rfl))⟩
  f14 := ⟨Try.f129.name, by decide, Try.func129.trans (congrArg some (by kernel_rfl))⟩
  f15 := Try.func130.trans (congrArg some (by kernel_rfl))
  f20 := ⟨Try.f137.name, by decide, Try.func137.trans (congrArg some (by kernel_rfl))⟩
  f21 := ⟨Try.f138.name, by decide, Try.func138.trans (congrArg some (by kernel_rfl))⟩
  f22 := ⟨Try.f139.name, by decide, Try.func139.trans (congrArg some (by kernel_rfl))⟩
  f23 := ⟨Try.f140.name, by decide, Try.func140.trans (congrArg some (by kernel_rfl))⟩
  f24 := ⟨Try.f141.name, by decide, Try.func141.trans (congrArg some (by kernel_rfl))⟩
  f25 := ⟨Try.f142.name, by decide, Try.func142.trans (congrArg some (by kernel_rfl))⟩
  f26 := ⟨Try.f143.name, by decide, Try.func143.trans (congrArg some (by kernel_rfl))⟩
  f27 := ⟨Try.f144.name, by decide, Try.func144.trans (congrArg some (by kernel_rfl))⟩
  f28 := Try.func145.trans (congrArg some (by kernel_rfl))
  f29 := Try.func146.trans (congrArg some (by kernel_rfl))
  f46 := ⟨Try.f151.name, by decide, Try.func151.trans (congrArg some (by kernel_rfl))⟩
  f47 := Try.func152.trans (congrArg some (by kernel_rfl))
  f48 := Try.func153.trans (congrArg some (by kernel_rfl))
  f49 := ⟨Try.f154.name, by decide, Try.func154.trans (congrArg some (by kernel_rfl))⟩
  f50 := ⟨Try.f155.name, by decide, Try.func155.trans (congrArg some (by kernel_rfl))⟩
  f57 := ⟨Try.f156.name, by decide, Try.func156.trans (congrArg some (by kernel_rfl))⟩
  t0 := Try.underlying0
  a0 := Try.isAgg0
  z0 := Try.sizeOf0
  v0 := Try.zeroValue0
  t3 := Try.underlying3
  a3 := Try.isAgg3
  z3 := Try.sizeOf3
  v3 := Try.zeroValue3
  t4 := Try.underlying4
  a4 := Try.isAgg4
  z4 := Try.sizeOf4
  v4 := Try.zeroValue4
  t5 := Try.underlying5
  a5 := Try.isAgg5
  z5 := Try.sizeOf5
  v5 := Try.zeroValue5
  t9 := Try.underlying9
  a9 := Try.isAgg9
  z9 := Try.sizeOf9
  v9 := Try.zeroValue9
  t22 := Try.underlying70
  a22 := Try.isAgg70
  z22 := Try.sizeOf70
  v22 := Try.zeroValue70
  t25 := Try.underlying124
  a25 := Try.isAgg124
  z25 := Try.sizeOf124
  v25 := Try.zeroValue124
  t39 := Try.underlying170
  a39 := Try.isAgg170
  z39 := Try.sizeOf170
  v39 := Try.zeroValue170
  t45 := Try.underlying186
  a45 := Try.isAgg186
  z45 := Try.sizeOf186
  v45 := Try.zeroValue186
  t46 := Try.underlying187
  a46 := Try.isAgg187
  z46 := Try.sizeOf187
  v46 := Try.zeroValue187
  t50 := Try.underlying191
  a50 := Try.isAgg191
  z50 := Try.sizeOf191
  v50 := Try.zeroValue191
  t53 := Try.underlying194
  a53 := Try.isAgg194
  z53 := Try.sizeOf194
  v53 := Try.zeroValue194
  t55 := Try.underlying196
  a55 := Try.isAgg196
  z55 := Try.sizeOf196
  v55 := Try.zeroValue196
  t66 := Try.underlying198
  a66 := Try.isAgg198
  z66 := Try.sizeOf198
  v66 := Try.zeroValue198
  t70 := Try.underlying202
  a70 := Try.isAgg202
  z70 := Try.sizeOf202
  v70 := Try.zeroValue202
  t76 := Try.underlying205
  a76 := Try.isAgg205
  z76 := Try.sizeOf205
  v76 := Try.zeroValue205
  t77 := Try.underlying206
  a77 := Try.isAgg206
  z77 := Try.sizeOf206
  v77 := Try.zeroValue206 }
end Go.Proofs
