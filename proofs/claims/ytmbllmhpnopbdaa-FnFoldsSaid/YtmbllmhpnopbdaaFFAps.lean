/-
  slices.AppendSeq, Collect over keys.
-/
import Derived.Test.YtmbllmhpnopbdaaFFKyi
import Derived.Maps.AppendAt

namespace Go.Proofs.Ytmbllmhpnopbdaa
open Go.RowKit Go.Maps Go.Shelf
set_option linter.unusedVariables false

def k2F (x : K3) : List Value := [.int .i64 x.x, .int .i64 x.y]
theorem k2F_len (x : K3) : (k2F x).length = 2 := rfl
theorem infoKa' : (Try.prog.info? 65).map (fun i => (i.zero, i.size, i.bytes)) = some (some (.agg #[.int .i64 0, .int .i64 0]), 2, 16) := by kernel_rfl
theorem infoKa : ∃ i, Try.prog.info? 65 = some i ∧ i.zero = some (.agg #[.int .i64 0, .int .i64 0]) ∧ i.size = 2 ∧ i.bytes = 16 := by
  have h := infoKa'
  cases hi : Try.prog.info? 65 with
  | none => rw [hi] at h; simp at h
  | some i => rw [hi] at h; simp at h; exact ⟨i, rfl, h.1, h.2.1, h.2.2⟩

/-- What a round finds. -/
def ApI (w : World) (B : Nat) (pre : List K3) (W : World) : Prop := (∃ v, Boxed W B 62 v ∧ W.ownsRow w.heap.size 65 2 v pre.length (flat k2F pre)) ∧ Below w.heap.size w W

theorem ownsRow_other {W W' : World} {base e size n : Nat} {v : Value} {xs : List Value} (h : W.ownsRow base e size v n xs) {row : Option Nat} (hg : W.grownBy W' row) (hr : ∀ r, row = some r → ∃ o : Obj, W.heap[r]? = some o ∧ o.isCells = false) : W'.ownsRow base e size v n xs := by
  obtain ⟨hl, h1 | ⟨g, cap, cur, rfl, hbb, hc, r⟩⟩ := h
  · exact ⟨hl, .inl h1⟩
  · refine ⟨hl, .inr ⟨g, cap, cur, rfl, hbb, (hg.block g (Array.getElem?_eq_some_iff.1 hc).1 (fun e => ?_)).trans hc, r⟩⟩
    obtain ⟨o, ho, hcc⟩ := hr g e.symm
    rw [hc] at ho
    cases ho
    cases hcc

theorem apI_own (w : World) (B : Nat) {D : Nat} (hD : w.heap.size ≤ D) : OwnFrom D (ApI w B) := by
  rintro pre W W' row ⟨⟨v, hv, hb⟩, g⟩ hg hr
  have hr' : ∀ r, row = some r → ∃ o : Obj, W.heap[r]? = some o ∧ o.isCells = false := fun r e => (hr r e).2
  refine ⟨⟨v, hv.kept hg (fun e => ?_), ownsRow_other hb hg hr'⟩, g.grown hg (Nat.le_trans (Nat.le_refl _) g.size) (fun k e => Nat.le_trans hD (hr k e).1)⟩
  obtain ⟨o, ho, hc⟩ := hr' B e.symm
  rw [show W.heap[B]? = _ from hv] at ho
  cases ho
  cases hc

theorem keyBox_own (D : Nat) {x : K3} {a' : Act} (mk : Nat → Act) {L : Nat} : OwnFrom D (fun (_ : Unit) W => ∃ Bx, L ≤ Bx ∧ W.heap[Bx]? = some (.cells #[.int .i64 x.x, .int .i64 x.y] 65 (0, 0)) ∧ a' = mk Bx) := by
  rintro _ W W' row ⟨Bx, h0, h1, h2⟩ hg hr
  refine ⟨Bx, h0, (hg.block Bx (Array.getElem?_eq_some_iff.1 h1).1 (fun e => ?_)).trans h1, h2⟩
  obtain ⟨_, o, ho, hc⟩ := hr Bx e.symm
  rw [h1] at ho
  cases ho
  cases hc

theorem walks_of {W W' : World} (h : KeepsOthers W W') : KeepsWalks W W' := ⟨h.size, fun k o hk hw => h.same k o hk (Obj.not_cells_of_walk hw)⟩

set_option maxRecDepth 100000 in
set_option maxHeartbeats 4000000 in
theorem appendSeq_any (gf : Nat) (lb : Array Value) (S : List K3 → Prop) (N : Nat) (w : World) (hN : N ≤ 100000)
    (hgf : ∀ args w, (callFunc gf args).run Try.prog w = .ok (.enter gf args) w)
    (hseq : ∀ W, Below w.heap.size w W → SeqStops Fence.wide 9 Try.prog gf lb k2E S (fun _ => True) N W) :
    Calls Try.prog 67 #[.slice none 0 0, .func (.func gf) #[] lb] w fun e w' => ∃ v ss, e = .returned v ∧ S ss ∧ Below w.heap.size w w' ∧ w'.ownsRow w.heap.size 65 2 v ss.length (flat k2F ss) := by
  obtain ⟨i5, hi5, hz50, hz51, hz52⟩ := infoKa
  refine (callsIn_wide (n := 10)).1 ?_
  refine callsIn_of_wp_marks Try.func67 rfl trivial ?_ rfl
  simp only [Try.ntmps67, List.size_toArray, List.length_cons, List.length_nil, Nat.reduceAdd, Nat.reduceSub, Array.replicate_succ, Array.replicate_zero, List.push_toArray, List.append_toArray, List.nil_append, List.cons_append]
  refine wpIn_seq_k fun K hK => ?_
  refine wpIn_wide.2 ?_
  go_wp2_with fail
  generalize hV : World.alloc w _ = V
  have bV : Boxed V w.heap.size 62 (.slice none 0 0) := by rw [← hV]; exact Boxed.new w 62 (.slice none 0 0)
  have gw : Below w.heap.size w V := by rw [← hV]; exact (Below.refl _ _).alloc (Nat.le_refl _) _
  clear hV
  refine wpIn_seq_k fun K3' hK2 => ?_
  refine wpIn_seq_k fun K3 hK3 => ?_
  refine wpIn_wide.2 ?_
  go_wp2_with fail
  refine wpIn_block ?_
  have hB := bV.lt
  refine wpIn_rangeFunc_ownH (n := 10) rfl (by omega) (gf := gf) (lb := lb) rfl trivial hgf (encs := fun x => #[k2E x]) (Kp := KeepsWalks) (hseq V gw) walksK_t walksK_b (Below.refl _ _) (fun _ => rfl)
    (ApI w w.heap.size) (fun _ _ _ => False) (apI_own w w.heap.size gw.size) (fun _ _ _ _ _ hs _ _ => hs) ⟨⟨_, bV, ownsRow_nil _ _ _ _⟩, gw⟩
    (fun x a' W => ∃ Bx, 0 ≤ Bx ∧ W.heap[Bx]? = some (.cells #[.int .i64 x.x, .int .i64 x.y] 65 (0, 0)) ∧ a' = { tmps := #[.slice none 0 0, .func (.func gf) #[] lb, .pointer (some ⟨w.heap.size, 0, none⟩), undef, .slice none 0 0, .pointer (some ⟨Bx, 0, none⟩), .func (.func gf) #[] lb, .agg #[.int .i64 x.x, .int .i64 x.y], undef, undef, undef, undef, undef], defers := [] })
    (fun x a' => keyBox_own V.heap.size _) ?assign ?body ?done ?stop
  case assign =>
    rintro l pre x W K' hi hK'
    refine roundRegion (fun h => by obtain ⟨_, _, h⟩ := h; exact h) (by kernel_rfl) ?_
    obtain ⟨⟨v, hv, hb⟩, g⟩ := hi
    have gA : Below W.heap.size W (W.alloc (.cells #[.int .i64 x.x, .int .i64 x.y] 65)) := (Below.refl _ W).alloc (Nat.le_refl _) _
    simp only [k2E]
    go_wp2_with fail
    exact hK' _ _ ((KeepsOthers.alloc _ _).from _) (KeepsWalks.alloc _ _) ⟨⟨v, hv.alloc _, ownsRow_below hb gA⟩, g.trans (gA.mono g.size)⟩ ⟨W.heap.size, Nat.zero_le _, World.alloc_heap_new W _, rfl⟩
  case body =>
    rintro l pre x a' W hl hr ⟨⟨v, hv, hrow⟩, g⟩ ⟨Bx, hBx, hbx, rfl⟩ hlt
    have b0 : W.cell? ⟨Bx, 0, none⟩ = some (.int .i64 x.x) := by simp [World.cell?, hbx]
    have b1 : W.cell? ⟨Bx, 1, none⟩ = some (.int .i64 x.y) := by simp [World.cell?, hbx]
    have hc := hv.cell
    have hgs := g.size
    refine wpIn_block ?_
    refine roundRegion (letsOut_block (fun h => by obtain ⟨_, _, h⟩ := h; exact h)) (by kernel_rfl) ?_
    go_wp2_with (at_builtin; refine wpList_append_own _ rfl _ _ 62 rfl w.heap.size 65 i5 (.agg #[.int .i64 0, .int .i64 0]) 2 16 Try.underlying62 hi5 hz50 hz51 hz52 rfl (by decide) _ _ _ rfl (hrow.alloc _) ⟨W.heap.size, 0, none⟩ 1 1 (k2F x) rfl rfl ?n1 ?n2 ?n3 ?n4 ?n5 ?_)
    case n1 => exact cells_new _ _ _
    case n2 => intro u hu; simp [k2F] at hu; rcases hu with rfl | rfl <;> rfl
    case n3 => unfold maxLen; omega
    case n4 => omega
    case n5 => simp; omega
    intro v' w6 hown' hgrow _
    obtain ⟨g', cap', rfl⟩ := ownsRow_succ hown'
    obtain ⟨hv1, hv2, hr2, hk2, hb2⟩ := hv.appended (by decide) hrow hgs (Nat.le_refl _) hown' hgrow
    have hc1 := hv1.cell
    have hf1 := hv1.frozen
    go_wp2_with fail
    refine ⟨hk2.from _, walks_of hk2, ⟨_, hv2, ?_⟩, g.trans hb2⟩
    rw [List.length_append, flat_append, flat_one]
    exact hr2
  case done =>
    rintro D ys W hD hS ⟨⟨v, hv, hrow⟩, g⟩ hKD
    have hc := hv.cell
    refine hK2 _ _ ?_
    refine wpIn_seq_k fun K7 hK7 => ?_
    refine wpIn_wide.2 ?_
    obtain ⟨a0, c0, rfl, _, _, _⟩ := SlIn.ofRow k2F_len hrow
    go_wp2_with fail
    refine wpIn_ret ?_
    have hrowF := ownsRow_other hrow (grownBy_putObj' W D (.deferred none)) (fun r e => by cases e; exact ⟨_, hKD, rfl⟩)
    have hVD := gw.size
    refine ⟨by simp, .inl ⟨_, _, rfl, run_takeDeferred hKD, ?_⟩⟩
    exact ⟨_, results_tmp rfl _ _ _, .slice a0 ys.length c0, ys, by rfl, hS, g.trans (belowK_b (w := w) (Nat.le_refl _) W D _ _ (by omega) hKD rfl rfl), hrowF⟩
  case stop =>
    rintro D c pre W _ _ h _
    exact h.elim

set_option maxHeartbeats 400000 in
theorem collect_any (gf : Nat) (lb : Array Value) (S : List K3 → Prop) (N : Nat) (w : World) (hN : N ≤ 100000)
    (hgf : ∀ args w, (callFunc gf args).run Try.prog w = .ok (.enter gf args) w)
    (hseq : ∀ W, Below w.heap.size w W → SeqStops Fence.wide 9 Try.prog gf lb k2E S (fun _ => True) N W) :
    Calls Try.prog 58 #[.func (.func gf) #[] lb] w fun e w' => ∃ v ss, e = .returned v ∧ S ss ∧ Below w.heap.size w w' ∧ w'.ownsRow w.heap.size 65 2 v ss.length (flat k2F ss) := by
  go_enter Try.func58, Try.ntmps58
  go_wp2_with fail
  refine (appendSeq_any gf lb S N _ hN hgf hseq).mono ?_
  rintro e w1 ⟨v, ss, rfl, hS, g, ho⟩
  go_wp2_with fail
  go_ret
  exact ⟨v, ss, rfl, hS, g, ho⟩

end Go.Proofs.Ytmbllmhpnopbdaa
