/-
  The program's MinerFault; the model's l9At, l9Fault, MinerFault.
-/
import Derived.Test.YtonngopnhpmjaaaEBfr
import Derived.Test.YtonngopnhpmjaaaEFcs
import Derived.Test.YtonngopnhpmjaaaEVie

namespace Go.Proofs.Ytonngopnhpmjaaa
open Go.RowKit Go.Maps
set_option linter.unusedVariables false
set_option maxRecDepth 20000

/-- A miner that is kept: its pages and its buffers. -/
structure MnC (W : World) (mb : Nat) (pa : Option Addr) (np pc : Nat) (a : Option Addr) (n c : Nat) : Prop where
  c0 : W.cell? ⟨mb, 0, none⟩ = some (.slice pa np pc)
  c1 : W.cell? ⟨mb, 1, none⟩ = some (.slice a n c)
theorem MnC.lt {W : World} {mb : Nat} {pa a : Option Addr} {np pc n c : Nat} (h : MnC W mb pa np pc a n c) : mb < W.heap.size := World.block_lt_of_cell? W _ h.c0
theorem MnC.below {W W' : World} {mb : Nat} {pa a : Option Addr} {np pc n c : Nat} (h : MnC W mb pa np pc a n c) (hb : Below W.heap.size W W') : MnC W' mb pa np pc a n c := ⟨(hb.cell h.lt).trans h.c0, (hb.cell (p := ⟨mb, 1, none⟩) h.lt).trans h.c1⟩
/-- What is not too great in buffers. -/
def BfOk (bs : List Bf) : Prop := ∀ x ∈ bs, x.cs.length ≤ 9223372036854775807 ∧ ∀ y ∈ x.cs, y.b.s.size ≤ maxLen ∧ y.a.s.size ≤ maxLen

set_option maxHeartbeats 8000000 in
theorem implMinerFault_any (pa : Option Addr) (ps : List (List Int)) (np pc : Nat) (a : Option Addr) (bs : List Bf) (n c : Nat) (w : World) (hnp : ps.length = np) (hmp : np ≤ 9223372036854775807) (hpo : PgOk ps) (hrd : PgRead w pa ps) (hn : bs.length = n) (hc : n ≤ c) (hc2 : c ≤ 9223372036854775807) (hok : BfOk bs) (hb : BfRead w a bs) :
    Calls Try.prog 20 #[.agg #[.slice pa np pc, .slice a n c]] w fun e w' => e = .returned (.int .i64 (mnQ ps bs)) ∧ Below w.heap.size w w' := by
  have HN : Hid (bs.length = n) := hn
  have HB : Hid (∀ W, Below w.heap.size w W → BfRead W a bs) := fun W hW => hb.below hW (Nat.le_refl _)
  have HO : Hid (BfOk bs) := hok
  have HBw : Hid (BfRead w a bs) := hb
  have HPf : Hid (∀ W, Below w.heap.size w W → Calls Try.prog 61 #[.slice pa np pc] W fun e w' => e = .returned (.int .i64 (viewQ ps)) ∧ Below W.heap.size W w') := fun W hW => implPagesFault_any pa ps np pc W hnp hmp hpo (hrd.below hW (Nat.le_refl _))
  obtain ⟨Q, hQ⟩ : ∃ Q, mnQ ps bs = Q := ⟨_, rfl⟩
  have HQ : Hid ((if viewQ ps = 0 then (if 8 < bs.length then 2 else bsQ [] bs) else viewQ ps) = Q) := hQ
  rw [hQ]
  generalize viewQ ps = vq at HPf HQ
  clear hnp hmp hpo hrd hn hok hb hQ
  go_enter Try.func20, Try.ntmps20
  go_upto_region 1 with (fail)
  generalize hX : World.alloc _ _ = X
  have gX : Below w.heap.size w X := by rw [← hX]; go_grown
  have hM : MnC X w.heap.size pa np pc a n c := by rw [← hX]; exact ⟨by simp [go_sem], by simp [go_sem]⟩
  clear hX
  obtain ⟨mb, hmb⟩ : ∃ mb, w.heap.size = mb := ⟨_, rfl⟩
  rw [hmb] at hM
  simp only [hmb]
  clear hmb
  have hpf := HPf.out X gX
  obtain ⟨m0, m1⟩ := hM
  go_wp2_with (go_at_call 61; refine hpf.mono ?_)
  rintro e W1 ⟨rfl, g1⟩
  have hM : MnC W1 mb pa np pc a n c := MnC.below (W := X) ⟨m0, m1⟩ g1
  have g := gX.trans (g1.mono gX.size)
  clear m0 m1 g1 gX hpf HPf
  by_cases hv : vq = 0
  · have d0 : (vq != 0) = false := by simpa using hv
    have HQ : Hid ((if 8 < n then 2 else bsQ [] bs) = Q) := by show _ = _; rw [← HQ.out, if_pos hv, HN.out]
    by_cases h8 : (8 : Int) < (n : Int)
    · have HX : Hid (Q = 2) := by show _ = _; rw [← HQ.out, if_pos (by omega)]
      have d8 : decide ((8 : Int) < n) = true := by simpa using h8
      obtain ⟨m0, m1⟩ := hM
      clear HQ
      go_wp2_with fail
      go_ret
      exact ⟨by rw [HX.out]; rfl, g⟩
    have HQ : Hid (bsQ [] bs = Q) := by show _ = _; rw [← HQ.out, if_neg (by omega)]
    have d8 : decide ((8 : Int) < n) = false := by simpa using h8
    have hn8 : n ≤ 8 := by omega
    clear h8
    obtain ⟨m0, m1⟩ := hM
    go_upto_region 7 with (fail)
    have hM : MnC W1 mb pa np pc a n c := ⟨m0, m1⟩
    clear m0 m1
    go_loopw [20] (fun i wr => ∃ j : Nat, j ≤ n ∧ i = .int .i64 j ∧ Hid (bsQ (bs.take j) (bs.drop j) = Q) ∧ Below w.heap.size w wr ∧ MnC wr mb pa np pc a n c) (fun i _ => n - (intOf i).toNat)
    case atStart => exact ⟨0, Nat.zero_le _, rfl, HQ.out, g, hM⟩
    case round =>
      clear g hM
      obtain ⟨j, hj, rfl, hq, g, hM⟩ := hrel
      by_cases hlt : j < n
      · obtain ⟨x, hx⟩ : ∃ x, bs[j]? = some x := ⟨_, List.getElem?_eq_getElem (by rw [HN.out]; exact hlt)⟩
        obtain ⟨b, off, xp, xc, rfl, x0, x1, xr⟩ := HBw.out.at hx
        have hxw : ∀ W, Below w.heap.size w W → Rs chE 10 W xp x.cs := fun W hW => xr.below hW (Nat.le_refl _)
        have x0 := (g.cell (World.block_lt_of_cell? _ _ x0)).trans x0
        have x1 := (g.cell (World.block_lt_of_cell? _ _ x1)).trans x1
        obtain ⟨ho1, ho2⟩ := HO.out x (List.mem_of_getElem? hx)
        have hq := bsQ_at hx ▸ hq.out
        have HQ1 : Hid ((if bfQ (bs.take j) x = 0 then bsQ (bs.take (j + 1)) (bs.drop (j + 1)) else bfQ (bs.take j) x) = Q) := hq
        have hjn : (j : Int) < (n : Int) := by omega
        have hjc : (j : Int) ≤ (c : Int) := by omega
        have hjc' : j ≤ c := by omega
        have htl : (bs.take j).length = j := by rw [List.length_take, HN.out]; omega
        obtain ⟨xt, xcs⟩ := x
        dsimp only at x0 x1 xr ho1 ho2 hxw
        obtain ⟨xl, hxl⟩ : ∃ xl, xcs.length = xl := ⟨_, rfl⟩
        have HBf : Hid (∀ W, Below w.heap.size w W → Calls Try.prog 62 #[.agg #[.int .i64 xt, .slice xp xl xc], .slice (some ⟨b, off, none⟩) j c] W fun e w' => e = .returned (.int .i64 (bfQ (bs.take j) ⟨xt, xcs⟩)) ∧ Below W.heap.size W w') := fun W hW => by
          have hxr : Rs chE 10 W xp xcs := hxw W hW
          exact bufferFault_any xt xp xcs xl xc _ (bs.take j) j c W hxl (by rw [← hxl]; exact ho1) ho2 hxr htl (by omega) ((HB.out W hW).take j)
        rw [hxl] at x1
        clear hq hx ho1 ho2 htl xr hxw
        generalize bfQ (bs.take j) ⟨xt, xcs⟩ = f at HBf HQ1
        go_upto_region 9 with (fail)
        generalize hY : World.alloc _ _ = Y
        have gY : Below wr.heap.size wr Y := by rw [← hY]; go_grown
        have hE : Y.cell? ⟨wr.heap.size, 0, none⟩ = some (.int .i64 xt) ∧ Y.cell? ⟨wr.heap.size, 1, none⟩ = some (.slice xp xl xc) := by rw [← hY]; exact ⟨by simp [go_sem], by simp [go_sem]⟩
        have g := g.trans (gY.mono g.size)
        have hM := hM.below gY
        clear hY gY x0 x1 hxl
        generalize wr.heap.size = eb at hE ⊢
        have hS0 : MnC Y.drew mb pa np pc (some ⟨b, off, none⟩) n c ∧ (Y.drew.cell? ⟨eb, 0, none⟩ = some (.int .i64 xt) ∧ Y.drew.cell? ⟨eb, 1, none⟩ = some (.slice xp xl xc)) ∧ Below w.heap.size w Y.drew := ⟨hM.below (Below.refl _ _).drew, hE, g.drew⟩
        refine wp_region_held_drew (S := fun V => MnC V mb pa np pc (some ⟨b, off, none⟩) n c ∧ (V.cell? ⟨eb, 0, none⟩ = some (.int .i64 xt) ∧ V.cell? ⟨eb, 1, none⟩ = some (.slice xp xl xc)) ∧ Below w.heap.size w V) (by kernel_rfl) hS0 (fun hHeld => ?_)
        clear hS0 hM hE g
        generalize Y.drew = D at hHeld ⊢
        refine wpAnyH_take (i := 0) (v := ?v1) rfl (by kernel_rfl) (by kernel_rfl) (by kernel_rfl) (fun _ _ _ h => h) (Or.inl ⟨by kernel_rfl, ?h1⟩) hHeld ?_
        case h1 => intro u hSw; (obtain ⟨q0, q1⟩ := hSw.2.1); clear hSw; go_simp; try with_reducible rfl
        try simp only [List.getElem_toArray]
        try simp only [List.getElem_cons_succ]
        try simp only [List.getElem_cons_zero]
        try simp only [Act.put]
        try simp only [List.setIfInBounds_toArray]
        try simp only [List.set]
        refine wpAnyH_take (i := 1) (v := ?v2) rfl (by kernel_rfl) (by kernel_rfl) (by kernel_rfl) (fun _ _ _ h => h) (Or.inl ⟨by kernel_rfl, ?h2⟩) hHeld ?_
        case h2 => intro u hSw; clear hSw; go_simp; try with_reducible rfl
        try simp only [List.getElem_toArray]
        try simp only [List.getElem_cons_succ]
        try simp only [List.getElem_cons_zero]
        try simp only [Act.put]
        try simp only [List.setIfInBounds_toArray]
        try simp only [List.set]
        refine wpAnyH_take (i := 2) (v := ?v3) rfl (by kernel_rfl) (by kernel_rfl) (by kernel_rfl) (fun _ _ _ h => h) (Or.inl ⟨by kernel_rfl, ?h3⟩) hHeld ?_
        case h3 => intro u hSw; (obtain ⟨m0, m1⟩ := hSw.1); clear hSw; go_simp; try with_reducible rfl
        try simp only [List.getElem_toArray]
        try simp only [List.getElem_cons_succ]
        try simp only [List.getElem_cons_zero]
        try simp only [Act.put]
        try simp only [List.setIfInBounds_toArray]
        try simp only [List.set]
        refine wpAnyH_take (i := 3) (v := ?v4) rfl (by kernel_rfl) (by kernel_rfl) (by kernel_rfl) (fun _ _ _ h => h) (Or.inl ⟨by kernel_rfl, ?h4⟩) hHeld ?_
        case h4 => intro u hSw; clear hSw; go_simp; try with_reducible rfl
        try simp only [List.getElem_toArray]
        try simp only [List.getElem_cons_succ]
        try simp only [List.getElem_cons_zero]
        try simp only [Act.put]
        try simp only [List.setIfInBounds_toArray]
        try simp only [List.set]
        refine wpAnyH_take (i := 4) (v := ?v5) rfl (by kernel_rfl) (by kernel_rfl) (by kernel_rfl) (fun _ _ _ h => h) (Or.inl ⟨by kernel_rfl, ?h5⟩) hHeld ?_
        case h5 => intro u hSw; clear hSw; go_simp; try with_reducible rfl
        try simp only [List.getElem_toArray]
        try simp only [List.getElem_cons_succ]
        try simp only [List.getElem_cons_zero]
        try simp only [Act.put]
        try simp only [List.setIfInBounds_toArray]
        try simp only [List.set]
        refine wpAnyH_ready (rs := [5]) (by kernel_rfl) (by simp) ?_
        refine AllReadyH.cons rfl (fun K hK => ?_) AllReadyH.nil
        go_simp
        go_wp2_with (go_at_call 62; refine (HBf.out _ hHeld.2.2).mono ?_; rintro e W5 ⟨rfl, gg⟩)
        refine hK.out _ _ (⟨hHeld.1.below gg, ⟨(gg.cell (World.block_lt_of_cell? _ _ hHeld.2.1.1)).trans hHeld.2.1.1, (gg.cell (p := ⟨eb, 1, none⟩) (World.block_lt_of_cell? _ _ hHeld.2.1.2)).trans hHeld.2.1.2⟩, hHeld.2.2.trans (gg.mono hHeld.2.2.size)⟩) (fun hHeld => ?_)
        clear hK K
        clear gg
        try simp only [Act.put]
        try simp only [List.setIfInBounds_toArray]
        try simp only [List.set]
        refine wpAnyH_take (i := 6) (v := ?v6) rfl (by kernel_rfl) (by kernel_rfl) (by kernel_rfl) (fun _ _ _ h => h) (Or.inl ⟨by kernel_rfl, ?h6⟩) hHeld ?_
        case h6 => intro u hSw; clear hSw; go_simp; try with_reducible rfl
        try simp only [List.getElem_toArray]
        try simp only [List.getElem_cons_succ]
        try simp only [List.getElem_cons_zero]
        try simp only [Act.put]
        try simp only [List.setIfInBounds_toArray]
        try simp only [List.set]
        refine wpAnyH_done (by kernel_rfl) ?_ _
        have g := hHeld.2.2
        have hM := hHeld.1
        clear hHeld HBf
        by_cases hf0 : f = 0
        · have d1 : (f != 0) = false := by simpa using hf0
          have hqn : Hid (bsQ (bs.take (j + 1)) (bs.drop (j + 1)) = Q) := by show _ = _; rw [← HQ1.out, if_pos hf0]
          clear HQ1
          go_wp2_with fail
          go_roundw
          case rel => exact ⟨j + 1, by omega, by go_num, hqn, g, hM⟩
          case measure => simp [intOf]; omega
        · have d1 : (f != 0) = true := by simpa using hf0
          have HX : Hid (Q = f) := by show _ = _; rw [← HQ1.out, if_neg hf0]
          clear HQ1 hM
          go_wp2_with fail
          go_ret
          exact ⟨by rw [HX.out]; rfl, g⟩
      · have HX : Hid (Q = 0) := by show _ = _; rw [← hq.out, List.drop_of_length_le (by rw [HN.out]; omega)]; rfl
        have hjn : ¬ (j : Int) < (n : Int) := by omega
        clear hM
        go_wp2_with fail
        go_ret
        exact ⟨by rw [HX.out]; rfl, g⟩
  · have d0 : (vq != 0) = true := by simpa using hv
    have HX : Hid (Q = vq) := by show _ = _; rw [← HQ.out, if_neg hv]
    clear hM HQ
    go_wp2_with fail
    go_ret
    exact ⟨by rw [HX.out]; rfl, g⟩

set_option maxHeartbeats 4000000 in
theorem l9At_any (mb : Nat) (pa : Option Addr) (np pc : Nat) (a : Option Addr) (bs : List Bf) (n c : Nat) (i : Nat) (x : Bf) (w : World) (hM : MnC w mb pa np pc a n c) (hn : bs.length = n) (hm : n ≤ 60) (hb : BfRead w a bs) (hx : bs[i]? = some x) :
    Calls Try.prog 111 #[.pointer (some ⟨mb, 0, none⟩), .int .i64 x.tx] w fun e w' => (∃ k : Nat, e = .returned (.int .i64 k) ∧ (decide ((k : Int) = (i : Int))) = !(bs.take i).any (fun y => decide (y.tx = x.tx))) ∧ Below w.heap.size w w' := by
  have HN : Hid (bs.length = n) := hn
  have HB : Hid (∀ W, Below w.heap.size w W → BfRead W a bs) := fun W hW => hb.below hW (Nat.le_refl _)
  have HX : Hid (bs[i]? = some x) := hx
  have hin : i < n := by rw [← hn]; exact (List.getElem?_eq_some_iff.1 hx).1
  obtain ⟨t, ht⟩ : ∃ t, x.tx = t := ⟨_, rfl⟩
  have HXt : Hid (x.tx = t) := ht
  rw [ht]
  clear hn hb hx ht
  go_enter Try.func111, Try.ntmps111
  go_upto_region 2 with (fail)
  go_loopw [5] (fun i' wr => ∃ j : Nat, j ≤ i ∧ i' = .int .i64 j ∧ Hid (∀ y ∈ bs.take j, decide (y.tx = t) = false) ∧ Below w.heap.size w wr ∧ MnC wr mb pa np pc a n c) (fun i' _ => n - (intOf i').toNat)
  case atStart => exact ⟨0, Nat.zero_le _, rfl, by intro y hy; simp at hy, Below.refl _ _, hM⟩
  case round =>
    clear hM
    obtain ⟨j, hj, rfl, hA, g, hM⟩ := hrel
    obtain ⟨y, hy⟩ : ∃ y, bs[j]? = some y := ⟨_, List.getElem?_eq_getElem (by rw [HN.out]; omega)⟩
    obtain ⟨b, off, yp, yc, rfl, y0, y1, _⟩ := (HB.out _ g).at hy
    obtain ⟨m0, m1⟩ := hM
    have hjn : (j : Int) < (n : Int) := by omega
    have HY : Hid (bs[j]? = some y) := hy
    clear hy y1
    obtain ⟨yt, ycs⟩ := y
    dsimp only at y0
    by_cases he : yt = t
    · have d : (yt == t) = true := by simpa using he
      have HE : Hid (decide ((j : Int) = (i : Int)) = !(bs.take i).any (fun y => decide (y.tx = t))) := by
        show _ = _
        by_cases hji : j = i
        · subst hji
          rw [List.any_eq_false.2 (fun y hy => by rw [hA.out y hy]; simp)]
          simp
        · have hlt : j < i := by omega
          rw [List.any_eq_true.2 ⟨⟨yt, ycs⟩, List.mem_of_getElem? (by rw [List.getElem?_take, if_pos hlt]; exact HY.out : (bs.take i)[j]? = some _), by simpa using he⟩]
          simp
          omega
      clear HY hA
      go_wp2_with fail
      go_ret
      exact ⟨⟨j, rfl, HE.out⟩, g⟩
    · have d : (yt == t) = false := by simpa using he
      have hji : j ≠ i := fun e => by
        subst e
        have := HX.out
        rw [HY.out] at this
        injection this with this
        rw [← this] at HXt
        exact he HXt.out
      have HA2 : Hid (∀ y ∈ bs.take (j + 1), decide (y.tx = t) = false) := by
        intro z hz
        rw [take_snoc HY.out] at hz
        rcases List.mem_append.1 hz with hz | hz
        · exact hA.out z hz
        · simp only [List.mem_singleton] at hz; rw [hz]; simpa using he
      have HMn : Hid (MnC wr mb pa np pc (some ⟨b, off, none⟩) n c) := ⟨m0, m1⟩
      clear hA HY
      go_wp2_with fail
      go_roundw
      case rel => exact ⟨j + 1, by omega, by go_num, HA2, g, HMn.out⟩
      case measure => simp [intOf]; omega

end Go.Proofs.Ytonngopnhpmjaaa

/-
  The model's l9Fault and MinerFault.
-/
namespace Go.Proofs.Ytonngopnhpmjaaa
open Go.RowKit Go.Maps
set_option linter.unusedVariables false
set_option maxRecDepth 20000

set_option maxHeartbeats 8000000 in
theorem l9Fault_any (mb : Nat) (pa : Option Addr) (ps : List (List Int)) (np pc : Nat) (a : Option Addr) (bs : List Bf) (n c : Nat) (w : World) (hM : MnC w mb pa np pc a n c) (hnp : ps.length = np) (hmp : np ≤ 9223372036854775807) (hpo : PgOk ps) (hrd : PgRead w pa ps) (hn : bs.length = n) (hm : n ≤ 9223372036854775807) (hok : BfOk bs) (hb : BfRead w a bs) :
    Calls Try.prog 59 #[.pointer (some ⟨mb, 0, none⟩)] w fun e w' => e = .returned (.int .i64 (mnQ ps bs)) ∧ Below w.heap.size w w' := by
  have HN : Hid (bs.length = n) := hn
  have HBw : Hid (BfRead w a bs) := hb
  have HO : Hid (BfOk bs) := hok
  have hpf := l6Fault_any pa ps np pc w hnp hmp hpo hrd
  obtain ⟨Q, hQ⟩ : ∃ Q, mnQ ps bs = Q := ⟨_, rfl⟩
  have HQ : Hid ((if viewQ ps = 0 then (if 8 < bs.length then 2 else bsQ [] bs) else viewQ ps) = Q) := hQ
  rw [hQ]
  generalize viewQ ps = vq at hpf HQ
  clear hnp hmp hpo hrd hn hok hb hQ
  go_enter Try.func59, Try.ntmps59
  obtain ⟨m0, m1⟩ := hM
  go_wp2_with (go_at_call 65; refine hpf.mono ?_)
  rintro e W1 ⟨rfl, g⟩
  have hM : MnC W1 mb pa np pc a n c := MnC.below (W := w) ⟨m0, m1⟩ g
  clear m0 m1 hpf
  by_cases hv : vq = 0
  · have d0 : (vq != 0) = false := by simpa using hv
    have HQ : Hid ((if 8 < n then 2 else bsQ [] bs) = Q) := by show _ = _; rw [← HQ.out, if_pos hv, HN.out]
    by_cases h8 : (8 : Int) < (n : Int)
    · have HX : Hid (Q = 2) := by show _ = _; rw [← HQ.out, if_pos (by omega)]
      have d8 : decide ((8 : Int) < n) = true := by simpa using h8
      obtain ⟨m0, m1⟩ := hM
      clear HQ
      go_wp2_with fail
      go_ret
      exact ⟨by rw [HX.out]; rfl, g⟩
    have HQ : Hid (bsQ [] bs = Q) := by show _ = _; rw [← HQ.out, if_neg (by omega)]
    have d8 : decide ((8 : Int) < n) = false := by simpa using h8
    have hn8 : n ≤ 8 := by omega
    clear h8
    obtain ⟨m0, m1⟩ := hM
    go_upto_region 7 with (fail)
    have hM : MnC W1 mb pa np pc a n c := ⟨m0, m1⟩
    clear m0 m1
    go_loopw [4] (fun i wr => ∃ j : Nat, j ≤ n ∧ i = .int .i64 j ∧ Hid (bsQ (bs.take j) (bs.drop j) = Q) ∧ Below w.heap.size w wr ∧ MnC wr mb pa np pc a n c) (fun i _ => n - (intOf i).toNat)
    case atStart => exact ⟨0, Nat.zero_le _, rfl, HQ.out, g, hM⟩
    case round =>
      clear g hM
      obtain ⟨j, hj, rfl, hq, g, hM⟩ := hrel
      by_cases hlt : j < n
      · obtain ⟨x, hx⟩ : ∃ x, bs[j]? = some x := ⟨_, List.getElem?_eq_getElem (by rw [HN.out]; exact hlt)⟩
        obtain ⟨b, off, xp, xc, rfl, x0, x1, xr⟩ := HBw.out.at hx
        have hx0l := World.block_lt_of_cell? _ _ x0
        have HX0 : Hid (∀ W, Below w.heap.size w W → W.cell? ⟨b, off + j * 2, none⟩ = some (.int .i64 x.tx)) := fun W hW => (hW.cell hx0l).trans x0
        have HX1 : Hid (∀ W, Below w.heap.size w W → W.cell? ⟨b, off + j * 2 + 1, none⟩ = some (.slice xp x.cs.length xc)) := fun W hW => (hW.cell (p := ⟨b, off + j * 2 + 1, none⟩) hx0l).trans x1
        obtain ⟨ho1, ho2⟩ := HO.out x (List.mem_of_getElem? hx)
        have hq := bsQ_at hx ▸ hq.out
        have HQ1 : Hid ((if bfQ (bs.take j) x = 0 then bsQ (bs.take (j + 1)) (bs.drop (j + 1)) else bfQ (bs.take j) x) = Q) := hq
        have hjn : (j : Int) < (n : Int) := by omega
        have HLi : Hid (∀ W, Below w.heap.size w W → Calls Try.prog 89 #[.slice xp x.cs.length xc] W fun e w' => e = .returned (.int .i64 (fdQ x.cs)) ∧ Below W.heap.size W w') := fun W hW => l9List_any xp x.cs x.cs.length xc W rfl ho1 ho2 (xr.below hW (Nat.le_refl _))
        have HAt : Hid (∀ W, Below w.heap.size w W → MnC W mb pa np pc (some ⟨b, off, none⟩) n c → Calls Try.prog 111 #[.pointer (some ⟨mb, 0, none⟩), .int .i64 x.tx] W fun e w' => (∃ k : Nat, e = .returned (.int .i64 k) ∧ (decide ((k : Int) = (j : Int))) = !(bs.take j).any (fun y => decide (y.tx = x.tx))) ∧ Below W.heap.size W w') := fun W hW hm => l9At_any mb pa np pc _ bs n c j x W hm HN.out (by omega) (HBw.out.below hW (Nat.le_refl _)) hx
        have HBq : Hid (bfQ (bs.take j) x = if txQ' x.tx = 0 then (if fdQ x.cs = 0 then (if (bs.take j).any (fun y => decide (y.tx = x.tx)) = true then 6 else 0) else fdQ x.cs) else txQ' x.tx) := rfl
        clear hq hx ho1 ho2 xr x0 x1 hx0l
        generalize bfQ (bs.take j) x = f at HQ1 HBq
        generalize (bs.take j).any (fun y => decide (y.tx = x.tx)) = tk at HAt HBq
        obtain ⟨xt, xcs⟩ := x
        dsimp only at HX0 HX1 HLi HAt HBq
        generalize xcs.length = xl at HX1 HLi
        generalize fdQ xcs = q2 at HLi HBq
        have h0 := HX0.out _ g
        obtain ⟨bb, hbb⟩ : ∃ bb, inW xt 1 99 = bb := ⟨_, rfl⟩
        have hin := l1InW_any xt 1 99 wr
        have HTq : Hid (txQ' xt = if bb = true then 0 else 3) := by
          show _ = _
          rw [← hbb]
          unfold txQ' inW
          by_cases h : 1 ≤ xt ∧ xt ≤ 99
          · rw [if_pos h, if_pos (by simpa using h)]
          · rw [if_neg h, if_neg (by simpa using h)]
        rw [hbb] at hin
        clear hbb
        obtain ⟨m0, m1⟩ := hM
        go_wp2_with fail
        refine hin.mono ?_
        rintro e W2 ⟨rfl, hw2⟩
        subst W2
        clear hin h0
        cases bb
        · have HX : Hid (Q = 3) := by
            show _ = _
            have h1 : txQ' xt = 3 := HTq.out
            rw [← HQ1.out, HBq.out, h1]
            simp
          clear m0 m1 HQ1 HBq HTq
          go_wp2_with fail
          go_ret
          exact ⟨by rw [HX.out]; rfl, g⟩
        · have HBq : Hid (f = if q2 = 0 then (if tk = true then 6 else 0) else q2) := by
            show _ = _
            have h1 : txQ' xt = 0 := HTq.out
            rw [HBq.out, if_pos h1]
          have h1 := HX1.out _ g
          have hli := HLi.out _ g
          clear HTq
          go_wp2_with fail
          refine hli.mono ?_
          rintro e W3 ⟨rfl, g3⟩
          have hM : MnC W3 mb pa np pc (some ⟨b, off, none⟩) n c := MnC.below (W := wr) ⟨m0, m1⟩ g3
          have g := g.trans (g3.mono g.size)
          clear h1 hli g3 m0 m1
          by_cases hz : q2 = 0
          · have d2 : (q2 != 0) = false := by simpa using hz
            have HBq : Hid (f = if tk = true then 6 else 0) := by show _ = _; rw [HBq.out, if_pos hz]
            have h0 := HX0.out _ g
            have hat := HAt.out _ g hM
            obtain ⟨m0, m1⟩ := hM
            go_wp2_with fail
            refine hat.mono ?_
            rintro e W4 ⟨⟨k, rfl, hk⟩, g4⟩
            have hM : MnC W4 mb pa np pc (some ⟨b, off, none⟩) n c := MnC.below (W := W3) ⟨m0, m1⟩ g4
            have g := g.trans (g4.mono g.size)
            clear hat g4 m0 m1 h0
            cases tk
            · have hkj : (k : Int) = (j : Int) := by simpa using hk
              have d3 : ((k : Int) != (j : Int)) = false := by simpa using hkj
              have hqn : Hid (bsQ (bs.take (j + 1)) (bs.drop (j + 1)) = Q) := by show _ = _; rw [← HQ1.out, if_pos (by rw [HBq.out]; rfl)]
              clear HQ1 HBq hk
              go_wp2_with fail
              go_roundw
              case rel => exact ⟨j + 1, by omega, by go_num, hqn, g, hM⟩
              case measure => simp [intOf]; omega
            · have hkj : ¬ (k : Int) = (j : Int) := by simpa using hk
              have d3 : ((k : Int) != (j : Int)) = true := by simpa using hkj
              have HX : Hid (Q = 6) := by
                show _ = _
                have h6 : f = 6 := HBq.out
                rw [← HQ1.out, h6]
                simp
              clear HQ1 HBq hk hM
              go_wp2_with fail
              go_ret
              exact ⟨by rw [HX.out]; rfl, g⟩
          · have d2 : (q2 != 0) = true := by simpa using hz
            have HX : Hid (Q = q2) := by
              show _ = _
              have h6 : f = q2 := by rw [HBq.out, if_neg hz]
              rw [← HQ1.out, h6, if_neg hz]
            clear HQ1 HBq hM
            go_wp2_with fail
            go_ret
            exact ⟨by rw [HX.out]; rfl, g⟩
      · have HX : Hid (Q = 0) := by show _ = _; rw [← hq.out, List.drop_of_length_le (by rw [HN.out]; omega)]; rfl
        have hjn : ¬ (j : Int) < (n : Int) := by omega
        obtain ⟨m0, m1⟩ := hM
        go_wp2_with fail
        go_ret
        exact ⟨by rw [HX.out]; rfl, g⟩
  · have d0 : (vq != 0) = true := by simpa using hv
    have HX : Hid (Q = vq) := by show _ = _; rw [← HQ.out, if_neg hv]
    clear hM HQ
    go_wp2_with fail
    go_ret
    exact ⟨by rw [HX.out]; rfl, g⟩

set_option maxHeartbeats 1000000 in
theorem specMinerFault_any (pa : Option Addr) (ps : List (List Int)) (np pc : Nat) (a : Option Addr) (bs : List Bf) (n c : Nat) (w : World) (hnp : ps.length = np) (hmp : np ≤ 9223372036854775807) (hpo : PgOk ps) (hrd : PgRead w pa ps) (hn : bs.length = n) (hm : n ≤ 9223372036854775807) (hok : BfOk bs) (hb : BfRead w a bs) :
    Calls Try.prog 18 #[.agg #[.slice pa np pc, .slice a n c]] w fun e w' => e = .returned (.int .i64 (mnQ ps bs)) ∧ Below w.heap.size w w' := by
  have HC : Hid (∀ (mb : Nat) (W : World), Below w.heap.size w W → MnC W mb pa np pc a n c → Calls Try.prog 59 #[.pointer (some ⟨mb, 0, none⟩)] W fun e w' => e = .returned (.int .i64 (mnQ ps bs)) ∧ Below W.heap.size W w') := fun mb W hW hM => l9Fault_any mb pa ps np pc a bs n c W hM hnp hmp hpo (hrd.below hW (Nat.le_refl _)) hn hm hok (hb.below hW (Nat.le_refl _))
  generalize mnQ ps bs = q at HC ⊢
  clear hnp hmp hpo hrd hn hm hok hb
  go_enter Try.func18, Try.ntmps18
  go_upto_region 1 with (fail)
  generalize hX : World.alloc _ _ = X
  have gX : Below w.heap.size w X := by rw [← hX]; go_grown
  have hM : MnC X w.heap.size pa np pc a n c := by rw [← hX]; exact ⟨by simp [go_sem], by simp [go_sem]⟩
  clear hX
  have hcon := HC.out _ X gX hM
  clear hM HC
  go_wp2_with fail
  refine hcon.mono ?_
  rintro e W ⟨rfl, gW⟩
  have g := gX.trans (gW.mono gX.size)
  clear hcon gX gW
  go_wp2_with fail
  go_ret
  exact ⟨rfl, g⟩

end Go.Proofs.Ytonngopnhpmjaaa
