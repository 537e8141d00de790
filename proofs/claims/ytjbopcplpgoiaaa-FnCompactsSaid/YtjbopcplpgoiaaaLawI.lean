/-
  The law FnExactFreeIn answers true at all bytes.
-/
import Derived.Test.YtjbopcplpgoiaaaSum
namespace Go.Proofs.Ytjbopcplpgoiaaa
open Go.RowKit
set_option linter.unusedVariables false

def freeN (zs : List Int) : Nat := 62 - 2 * nb zs 0 - lens zs (nb zs 0)
def freeOf (zs : List Int) : Int := if fltOf zs = 0 then (freeN zs : Int) else 0

set_option maxHeartbeats 1000000 in
theorem l2Free_any (a : Option Addr) (zs : List Int) (c : Nat) (w : World) (hr : Reads w a zs) (h : Fine zs) :
    Calls Try.prog 69 #[.slice a 64 c] w fun e w' => e = .returned (.int .i64 (freeN zs)) ∧ w' = w := by
  have hc := h.few
  have hf := h.sum
  unfold freeN
  obtain ⟨n, hn⟩ : ∃ n, n = nb zs 0 := ⟨_, rfl⟩
  have HN : Hid (nb zs 0 = n) := hn.symm
  rw [← hn] at hc hf ⊢
  clear hn
  go_enter Try.func69, Try.ntmps69
  go_wp2_with fail
  refine (l2Count_any a zs c _ hr h.pg).mono ?_
  rintro e w' ⟨rfl, rfl⟩
  rw [HN.out]
  go_wp2_with fail
  go_loop [3, 4] (fun fr i => ∃ k f : Nat, k ≤ n ∧ i = .int .i64 k ∧ fr = .int .i64 f ∧ Hid (f + 2 + 2 * n + lens zs k = 64)) (fun _ i => n - (intOf i).toNat)
  case atStart => exact ⟨0, 62 - 2 * n, by omega, rfl, by go_num, by show _ = 64; simp only [lens]; omega⟩
  case round =>
    obtain ⟨k, f, hk, rfl, rfl, HF⟩ := hrel
    go_wp2_with fail
    refine (l2Count_any a zs c _ hr h.pg).mono ?_
    rintro e w' ⟨rfl, rfl⟩
    rw [HN.out]
    by_cases hlt : k < n
    · have hi : (k : Int) < (n : Int) := by omega
      have hlen : nb zs (3 + 2 * k) ≤ f := by
        have h1 := HF.out
        have h2 := lens_le zs (k + 1) (n - (k + 1))
        rw [show k + 1 + (n - (k + 1)) = n by omega, lens] at h2
        omega
      have hf64 : f ≤ 64 := by have := HF.out; omega
      go_wp2_with fail
      refine (l2Size_any a zs c k _ hr h.pg (by omega)).mono ?_
      rintro e w' ⟨rfl, rfl⟩
      obtain ⟨l, hl⟩ : ∃ l, l = nb zs (3 + 2 * k) := ⟨_, rfl⟩
      rw [← hl] at hlen ⊢
      have HL : Hid (l = nb zs (3 + 2 * k)) := hl
      clear hl
      go_wp2_with fail
      go_round
      case rel => exact ⟨k + 1, f - l, by omega, by go_num, by go_num, by show f - l + 2 + 2 * n + lens zs (k + 1) = 64; have := HF.out; have := HL.out; rw [lens]; omega⟩
      case measure => simp [intOf]; omega
    · have e : k = n := by omega
      subst e
      have HE : Hid (f = 62 - 2 * k - lens zs k) := by have := HF.out; show f = _; omega
      go_wp2_with fail
      go_ret
      exact ⟨by rw [← HE.out]; rfl, rfl⟩

/-- Block b holds the two cells of an IntResult, and may be written. -/
structure IRes (w : World) (b : Nat) (q v : Int) : Prop where
  c0 : w.cell? ⟨b, 0, none⟩ = some (.int .i64 q)
  c1 : w.cell? ⟨b, 1, none⟩ = some (.int .i64 v)
  f0 : w.frozen? ⟨b, 0, none⟩ = false
  f1 : w.frozen? ⟨b, 1, none⟩ = false
theorem IRes.lt {b : Nat} {w : World} {q v : Int} (h : IRes w b q v) : b < w.heap.size := World.block_lt_of_cell? w _ h.c0
theorem IRes.below {b : Nat} {w w' : World} {q v : Int} (h : IRes w b q v) (hb : Below w.heap.size w w') : IRes w' b q v :=
  ⟨(hb.cell (p := ⟨b, 0, none⟩) h.lt).trans h.c0, (hb.cell (p := ⟨b, 1, none⟩) h.lt).trans h.c1, (hb.frozen (p := ⟨b, 0, none⟩) h.lt).trans h.f0, (hb.frozen (p := ⟨b, 1, none⟩) h.lt).trans h.f1⟩

def freeV (zs : List Int) : Value := .agg #[.int .i64 (fltOf zs), .int .i64 (freeOf zs)]

set_option maxHeartbeats 1000000 in
theorem specFreeIn_any (a : Option Addr) (zs : List Int) (n c : Nat) (w : World) (hn : zs.length = n) (hm : n ≤ 1048576) (hr : Reads w a zs) (hz : ∀ z ∈ zs, 0 ≤ z ∧ z ≤ 255) :
    Calls Try.prog 34 #[.slice a n c] w fun e w' => e = .returned (freeV zs) ∧ Below w.heap.size w w' := by
  have hX : IRes (w.alloc (.cells #[.int .i64 0, .int .i64 0] 33)) w.heap.size 0 0 := ⟨by simp [go_sem], by simp [go_sem], by simp [go_sem], by simp [go_sem]⟩
  have g : Below w.heap.size w (w.alloc (.cells #[.int .i64 0, .int .i64 0] 33)) := by go_grown
  have hr := hr.below g (Nat.le_refl _)
  obtain ⟨X, hX0⟩ : ∃ X, w.alloc (.cells #[.int .i64 0, .int .i64 0] 33) = X := ⟨_, rfl⟩
  rw [hX0] at hX g hr
  obtain ⟨c0, c1, f0, f1⟩ := hX
  go_enter Try.func34, Try.ntmps34
  go_wp2_with fail
  refine (l2Fault_all a zs n c _ hn hm hr hz).mono ?_
  rintro e w' ⟨rfl, rfl⟩
  clear hX0
  by_cases hq : fltOf zs = 0
  · have hF := fine_of hz hq
    have HV : Hid (freeV zs = .agg #[.int .i64 0, .int .i64 (freeN zs)]) := by show _ = _; rw [freeV, freeOf, if_pos hq, hq]
    obtain rfl : n = 64 := hn.symm.trans hF.pg.len
    rw [hq]
    clear hq
    go_wp2_with fail
    refine (l2Free_any a zs c _ hr hF).mono ?_
    rintro e w' ⟨rfl, rfl⟩
    obtain ⟨f, hf⟩ : ∃ f, f = freeN zs := ⟨_, rfl⟩
    rw [← hf] at HV ⊢
    clear hf
    go_wp2_with fail
    refine bodyPost_ret (v := .agg #[.int .i64 0, .int .i64 f]) (by simp [results, Try.results34, go_sem, c0, c1]) rfl ?_
    exact ⟨by rw [HV.out], by go_grown⟩
  · have HV : Hid (freeV zs = .agg #[.int .i64 (fltOf zs), .int .i64 0]) := by show _ = _; rw [freeV, freeOf, if_neg hq]
    have dq : (fltOf zs != 0) = true := by simpa using hq
    obtain ⟨q, hqq⟩ : ∃ q, q = fltOf zs := ⟨_, rfl⟩
    rw [← hqq] at HV dq ⊢
    clear hq hqq
    go_wp2_with fail
    refine bodyPost_ret (v := .agg #[.int .i64 q, .int .i64 0]) (by simp [results, Try.results34, go_sem, c0, c1]) rfl ?_
    exact ⟨by rw [HV.out], by go_grown⟩

set_option maxHeartbeats 1000000 in
theorem implFreeIn_any (a : Option Addr) (zs : List Int) (n c : Nat) (w : World) (hn : zs.length = n) (hm : n ≤ 1048576) (hc : n ≤ c) (hr : Reads w a zs) (hz : ∀ z ∈ zs, 0 ≤ z ∧ z ≤ 255) :
    Calls Try.prog 18 #[.slice a n c] w fun e w' => e = .returned (freeV zs) ∧ Below w.heap.size w w' := by
  have hX : IRes (w.alloc (.cells #[.int .i64 0, .int .i64 0] 33)) w.heap.size 0 0 := ⟨by simp [go_sem], by simp [go_sem], by simp [go_sem], by simp [go_sem]⟩
  have g : Below w.heap.size w (w.alloc (.cells #[.int .i64 0, .int .i64 0] 33)) := by go_grown
  have hr := hr.below g (Nat.le_refl _)
  obtain ⟨X, hX0⟩ : ∃ X, w.alloc (.cells #[.int .i64 0, .int .i64 0] 33) = X := ⟨_, rfl⟩
  rw [hX0] at hX g hr
  go_enter Try.func18, Try.ntmps18
  go_wp2_with fail
  refine (loadPage_all a zs n c _ hn hm hc hr hz).mono ?_
  rintro e w1 ⟨rfl, g1⟩
  have hX1 := hX.below g1
  have g : Below w.heap.size w w1 := g.trans (g1.mono g.size)
  clear hX0 hX g1 hr
  have hpl := pg_len zs
  obtain ⟨ys, hys⟩ : ∃ ys, ys = pg zs := ⟨_, rfl⟩
  have HY : Hid (ys = pg zs) := hys
  rw [← hys] at hpl ⊢
  clear hys
  go_upto_region 2 with (refine wpList_storePg rfl _ _ rfl _ ys rfl rfl hpl (filled 0 0) (arr_new _ (filled 0 0) rfl) ?_)
  generalize hZ : World.setRow _ w1.heap.size (pgC ys) = Z
  have hA : Arr Z w1.heap.size ys := by rw [← hZ]; exact (arr_new w1 (filled 0 0) rfl).put hpl
  have gZ : Below w1.heap.size w1 Z := by rw [← hZ]; exact setRow_below ((Below.refl _ _).alloc (Nat.le_refl _) _) (Nat.le_refl _) _
  have hX2 := hX1.below gZ
  have g : Below w.heap.size w Z := g.trans (gZ.mono g.size)
  have hlt := hX1.lt
  clear hZ gZ hX1
  by_cases hq : fltOf zs = 0
  · have hF := fine_of hz hq
    have HV : Hid (freeV zs = .agg #[.int .i64 0, .int .i64 (freeN zs)]) := by show _ = _; rw [freeV, freeOf, if_pos hq, hq]
    have hyz : ys = zs := by rw [HY.out, pg, if_pos hF.pg.len]
    subst hyz
    rw [hq]
    clear hq
    go_wp2_with (refine wpList_loadPg rfl _ rfl _ rfl ys (by assumption) ?_)
    refine (free_any ys _ hF.pg hF.few hF.sum).mono ?_
    rintro e w3 ⟨rfl, g3⟩
    have hX3 := hX2.below g3
    have g : Below w.heap.size w w3 := g.trans (g3.mono g.size)
    have hf64 : freeN ys ≤ 64 := by unfold freeN; omega
    change (62 - 2 * nb ys 0 - lens ys (nb ys 0)) ≤ 64 at hf64
    obtain ⟨f, hf⟩ : ∃ f, f = 62 - 2 * nb ys 0 - lens ys (nb ys 0) := ⟨_, rfl⟩
    have HV' : Hid (freeV ys = .agg #[.int .i64 0, .int .i64 f]) := by show _ = _; rw [HV.out, hf]; rfl
    rw [← hf] at hf64 ⊢
    clear hf g3 hX2 HV
    obtain ⟨c0, c1, f0, f1⟩ := hX3
    go_wp2_with fail
    refine bodyPost_ret (v := .agg #[.int .i64 0, .int .i64 f]) (by simp [results, Try.results18, go_sem, c0, c1]) rfl ?_
    exact ⟨by rw [HV'.out], by go_grown⟩
  · have HV : Hid (freeV zs = .agg #[.int .i64 (fltOf zs), .int .i64 0]) := by show _ = _; rw [freeV, freeOf, if_neg hq]
    have dq : (fltOf zs != 0) = true := by simpa using hq
    obtain ⟨q, hqq⟩ : ∃ q, q = fltOf zs := ⟨_, rfl⟩
    rw [← hqq] at HV dq ⊢
    clear hq hqq
    obtain ⟨c0, c1, f0, f1⟩ := hX2
    go_wp2_with fail
    refine bodyPost_ret (v := .agg #[.int .i64 q, .int .i64 0]) (by simp [results, Try.results18, go_sem, c0, c1]) rfl ?_
    exact ⟨by rw [HV.out], by go_grown⟩

set_option maxHeartbeats 400000 in
theorem eqIntResult_same (q v : Int) (w : World) :
    Calls Try.prog 35 #[.agg #[.int .i64 q, .int .i64 v], .agg #[.int .i64 q, .int .i64 v]] w fun e w' => e = .returned (.bool true) ∧ Below w.heap.size w w' := by
  go_enter Try.func35, Try.ntmps35
  go_wp2_with fail
  go_ret
  exact ⟨rfl, by go_grown⟩

set_option maxHeartbeats 400000 in
theorem lawFreeIn_over (a : Option Addr) (n c : Nat) (w : World) (hs : 1048576 < n) :
    Calls Try.prog 7 #[.slice a n c] w fun e w' => e = .returned (.bool true) ∧ Below w.heap.size w w' := by
  have d : (1048576 : Int) < (n : Int) := by omega
  go_enter Try.func7, Try.ntmps7
  go_wp2_with fail
  go_ret
  exact ⟨rfl, Below.refl _ _⟩

set_option maxHeartbeats 1000000 in
theorem lawFreeIn_fits (a : Option Addr) (zs : List Int) (n c : Nat) (w : World) (hn : zs.length = n) (hs : n ≤ 1048576) (ha : Reads w a zs) (hz : ∀ z ∈ zs, 0 ≤ z ∧ z ≤ 255) :
    Calls Try.prog 7 #[.slice a n c] w fun e w' => e = .returned (.bool true) ∧ Below w.heap.size w w' := by
  obtain ⟨q, v, hq⟩ : ∃ q v, freeV zs = .agg #[.int .i64 q, .int .i64 v] := ⟨_, _, rfl⟩
  have HR : Hid (freeV zs = .agg #[.int .i64 q, .int .i64 v]) := hq
  have HN : Hid (zs.length = n) := hn
  clear hq hn
  have d : ¬ ((1048576 : Int) < (n : Int)) := by omega
  have hm : n ≤ 140737488351232 := by omega
  go_enter Try.func7, Try.ntmps7
  go_wp2_with fail
  refine (toByteS_any a zs n c _ HN.out hs ha).mono ?_
  rintro e w1 ⟨rfl, g1, y1⟩
  have ha1 := ha.below g1 (Nat.le_refl _)
  go_wp2_with fail
  refine (specFreeIn_any _ zs n n _ HN.out hs y1.reads hz).mono ?_
  rintro e w2 ⟨rfl, g2⟩
  rw [HR.out]
  have ha2 := ha1.below g2 (Nat.le_refl _)
  have g : Below w.heap.size w w2 := g1.trans (g2.mono g1.size)
  clear g1 g2 y1 ha1
  go_wp2_with fail
  have ha3 := ha2.below (B := w2.heap.size) (w' := w2.alloc (.cells #[.int .i64 q, .int .i64 v] 33)) (by go_grown) (Nat.le_refl _)
  refine (toByteS_any a zs n c _ HN.out hs ha3).mono ?_
  rintro e w3 ⟨rfl, g3, y3⟩
  have hA : IRes w3 w2.heap.size q v := IRes.below ⟨by simp [go_sem], by simp [go_sem], by simp [go_sem], by simp [go_sem]⟩ g3
  have ha4 := ha3.below g3 (Nat.le_refl _)
  have hgz := g.size
  have g : Below w.heap.size w w3 := g.trans (Below.trans (by go_grown) (g3.mono (by simp; omega)))
  clear hgz
  simp only [World.size_alloc] at y3
  clear g3 ha2 ha3
  go_wp2_with fail
  refine (implFreeIn_any _ zs n n _ HN.out hs (Nat.le_refl _) y3.reads hz).mono ?_
  rintro e w4 ⟨rfl, g4⟩
  rw [HR.out]
  have hA := hA.below g4
  have y4 := y3.below g4
  have ha5 := ha4.below g4 (Nat.le_refl _)
  have g : Below w.heap.size w w4 := g.trans (g4.mono g.size)
  have hz4 : w2.heap.size < w4.heap.size := hA.lt
  clear g4 y3 ha4
  obtain ⟨x0, x1, _, _⟩ := hA
  go_wp2_with fail
  refine (eqIntResult_same q v _).mono ?_
  rintro e w5 ⟨rfl, g5⟩
  have gb : Below w4.heap.size w4 w5 := Below.trans (by go_grown) (g5.mono (by simp))
  have y5 := y4.below gb
  have ha6 := ha5.below gb (Nat.le_refl _)
  have g : Below w.heap.size w w5 := g.trans (gb.mono g.size)
  clear g5 gb y4 ha5 hz4 x0 x1
  go_wp2_with fail
  refine (toByteS_any a zs n c _ HN.out hs ha6).mono ?_
  rintro e w6 ⟨rfl, g6, y6⟩
  have y7 := y5.below g6
  have g : Below w.heap.size w w6 := g.trans (g6.mono g.size)
  clear g6 y5 ha6
  go_wp2_with fail
  refine (eqByteS_same _ _ _ _ _ _ zs n n n _ HN.out hm y7 y6).mono ?_
  rintro e w7 ⟨rfl, m, rfl⟩
  have g := below_draws g m
  clear y6 y7
  go_wp2_with fail
  go_ret
  exact ⟨rfl, g⟩

theorem lawFreeIn_any (a : Option Addr) (n c : Nat) (zs : List Int) (w : World) (h : IsRow .u8 w a n c zs) :
    Calls Try.prog 7 #[.slice a n c] w fun e w' => e = .returned (.bool true) ∧ Below w.heap.size w w' := by
  obtain ⟨hn, _, hr, hz⟩ := isRow_reads h
  by_cases hs : 1048576 < n
  · exact lawFreeIn_over a n c w hs
  · exact lawFreeIn_fits a (zs.take n) n c w hn (by omega) hr hz

end Go.Proofs.Ytjbopcplpgoiaaa
