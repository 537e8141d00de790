/-
  What the seat lacked of the texts of pages.
-/
import Derived.Test.YtnfolgoloaeanaaGreatULawA
import Derived.Test.YtnfolgoloaeanaaGreatUDee
import Derived.Test.YtnfolgoloaeanaaGreatURwf
import Derived.Laws.CopyOwn
import Derived.Test.YtnfolgoloaeanaaGreatUMod

namespace Go.Proofs.YtnfolgoloaeanaaGreat
open Go.RowKit
set_option linter.unusedVariables false
set_option maxRecDepth 20000

set_option maxHeartbeats 1000000 in
theorem l2New_any (f : Int) (w : World) :
    Calls Tryz.prog 164 #[.int .u8 f] w fun e w' => e = .returned (.slice (some ⟨w.heap.size, 0, none⟩) 64 64) ∧ Below w.heap.size w w' ∧ BytesIn w.heap.size w'.heap.size w' (some ⟨w.heap.size, 0, none⟩) (newBytes f) := by
  obtain ⟨i0, hi, hz0, hz1, hz2⟩ := info5
  go_enter Tryz.func164, Tryz.ntmps164
  go_wp2_with (at_make; refine wpList_make_full _ rfl _ _ 22 rfl w.heap.size 5 i0 (.int .u8 0) 1 Tryz.underlying22 hi hz0 hz1 .i64 .i64 _ _ 64 rfl rfl rfl rfl ?c1 ?c2 (Nat.le_refl _) ?_)
  case c1 => rw [hz2]; omega
  case c2 => unfold maxLen; omega
  intro w1 hown hg
  have hB : Below w.heap.size w w1 := Below.grown (Below.refl _ _) hg (Nat.le_refl _) (fun k hk => by cases hk)
  have hlt1 : w.heap.size < w1.heap.size := (hown.lt w.heap.size (by simp [Value.ownBlock])).2
  have hY : BytesIn w.heap.size w1.heap.size w1 (some ⟨w.heap.size, 0, none⟩) (filled f 0) :=
    .inr ⟨w.heap.size, 0, rfl, Nat.le_refl _, hlt1, fun i hi => by
      have hi' : i < 64 := by rw [filled_length f 0 (by omega)] at hi; exact hi
      rw [Nat.zero_add, hown.cellAt i (by omega), made_zero 64 i hi']
      rw [filled_zero], fun i _ => by rw [Nat.zero_add]; exact hown.frozenAt i⟩
  clear hown hg hi hz0 hz1 hz2
  go_wp2_with fail
  go_loopw [4] (fun i wr => ∃ k : Nat, k ≤ 64 ∧ i = .int .i64 k ∧ wr.heap.size = w1.heap.size ∧ Below w.heap.size w wr ∧ BytesIn w.heap.size w1.heap.size wr (some ⟨w.heap.size, 0, none⟩) (filled f k)) (fun i _ => 64 - (intOf i).toNat)
  case atStart => exact ⟨0, by omega, rfl, rfl, hB, hY⟩
  case round =>
    obtain ⟨k, hk, rfl, hs, g, hA⟩ := hrel
    by_cases hlt : k < 64
    · obtain ⟨e1, e2⟩ := hA.at k (by rw [filled_length f k hk]; exact hlt)
      simp only [Nat.zero_add] at e1 e2
      have hi : (k : Int) < 64 := by omega
      go_wp2
      go_roundw
      case rel => exact ⟨k + 1, by omega, by go_num, by simpa using hs, g.setCell (by simp) _, by rw [← filled_set f k hlt]; simpa using hA.set k (by rw [filled_length f k hk]; exact hlt) f⟩
      case measure => simp [intOf]; omega
    · have e : k = 64 := by omega
      subst e
      obtain ⟨e0, e1⟩ := hA.at 0 (by rw [filled_length f _ hk]; omega)
      obtain ⟨e2, e3⟩ := hA.at 1 (by rw [filled_length f _ hk]; omega)
      simp only [Nat.zero_add] at e0 e1 e2 e3
      have hY := (hA.set 0 (by rw [filled_length f _ hk]; omega) 0).set 1 (by rw [List.length_set, filled_length f _ hk]; omega) 64
      rw [filled_new] at hY
      simp only [Nat.zero_add] at hY
      go_wp2
      go_ret
      exact ⟨rfl, (g.setCell (by simp) _).setCell (by simp) _, hY.mono (Nat.le_refl _) (by simp; omega)⟩

set_option maxHeartbeats 1000000 in
theorem l2Free_any (a : Option Addr) (zs : List Int) (c : Nat) (w : World) (hr : Reads w a zs) (h : Fine zs) :
    Calls Tryz.prog 190 #[.slice a 64 c] w fun e w' => e = .returned (.int .i64 (freeN zs)) ∧ w' = w := by
  have hc := h.few
  have hf := h.sum
  unfold freeN
  obtain ⟨n, hn⟩ : ∃ n, n = nb zs 0 := ⟨_, rfl⟩
  have HN : Hid (nb zs 0 = n) := hn.symm
  rw [← hn] at hc hf ⊢
  clear hn
  go_enter Tryz.func190, Tryz.ntmps190
  go_wp2_with fail
  refine (l2Count_any a zs c _ hr h.pg).mono ?_
  rintro e w' ⟨rfl, rfl⟩
  rw [HN.out]
  go_wp2_with fail
  go_loop [3, 4] (fun fr i => ∃ k f : Nat, k ≤ n ∧ i = .int .i64 k ∧ fr = .int .i64 f ∧ Hid (f + 2 + 2 * n + lens zs k = 64)) (fun _ i => n - (intOf i).toNat)
  case atStart => exact ⟨0, 62 - 2 * n, by omega, rfl, by go_num, by show _ = 64; simp only [lens]; omega⟩
  case round =>
    obtain ⟨k, f, hk, rfl, rfl, HF⟩ := hrel
    go_wp2_with fail
    refine (l2Count_any a zs c _ hr h.pg).mono ?_
    rintro e w' ⟨rfl, rfl⟩
    rw [HN.out]
    by_cases hlt : k < n
    · have hi : (k : Int) < (n : Int) := by omega
      have hlen : nb zs (3 + 2 * k) ≤ f := by
        have h1 := HF.out
        have h2 := lens_le zs (k + 1) (n - (k + 1))
        rw [show k + 1 + (n - (k + 1)) = n by omega, lens] at h2
        omega
      have hf64 : f ≤ 64 := by have := HF.out; omega
      go_wp2_with fail
      refine (l2Size_any a zs c k _ hr h.pg (by omega)).mono ?_
      rintro e w' ⟨rfl, rfl⟩
      obtain ⟨l, hl⟩ : ∃ l, l = nb zs (3 + 2 * k) := ⟨_, rfl⟩
      rw [← hl] at hlen ⊢
      have HL : Hid (l = nb zs (3 + 2 * k)) := hl
      clear hl
      go_wp2_with fail
      go_round
      case rel => exact ⟨k + 1, f - l, by omega, by go_num, by go_num, by show f - l + 2 + 2 * n + lens zs (k + 1) = 64; have := HF.out; have := HL.out; rw [lens]; omega⟩
      case measure => simp [intOf]; omega
    · have e : k = n := by omega
      subst e
      have HE : Hid (f = 62 - 2 * k - lens zs k) := by have := HF.out; show f = _; omega
      go_wp2_with fail
      go_ret
      exact ⟨by rw [← HE.out]; rfl, rfl⟩


set_option maxHeartbeats 1000000 in
theorem free_any (zs : List Int) (w : World) (h : IsPg zs) (hc : nb zs 0 ≤ 16) (hf : 2 + 2 * nb zs 0 + lens zs (nb zs 0) ≤ 64) :
    Calls Tryz.prog 152 #[.agg (pgC zs)] w fun e w' => e = .returned (.int .u64 (62 - 2 * nb zs 0 - lens zs (nb zs 0) : Nat)) ∧ Below w.heap.size w w' := by
  obtain ⟨X, hX, hA, g⟩ := boxed zs w h
  obtain ⟨n, hn⟩ : ∃ n, n = nb zs 0 := ⟨_, rfl⟩
  have HN : Hid (n = nb zs 0) := hn
  rw [← hn] at hc hf ⊢
  clear hn
  go_enter Tryz.func152, Tryz.ntmps152
  go_wp2_with (refine wpList_loadPg rfl _ rfl _ rfl zs (by assumption) ?_)
  refine (slots_any zs _ h).mono ?_
  rintro e w1 ⟨rfl, g1⟩
  rw [← HN.out]
  have hA := hA.grown g1
  have g : Below w.heap.size w w1 := g.trans (g1.mono g.size)
  clear g1 hX
  go_wp2_with (refine wpList_loadPg rfl _ rfl _ rfl zs (by assumption) ?_)
  refine (dirEnd_any n _ (by omega)).mono ?_
  rintro e w2 ⟨rfl, rfl⟩
  go_wp2_with (refine wpList_loadPg rfl _ rfl _ rfl zs (by assumption) ?_)
  refine (slots_any zs _ h).mono ?_
  rintro e w3 ⟨rfl, g3⟩
  rw [← HN.out]
  have hA := hA.grown g3
  have g : Below w.heap.size w w3 := g.trans (g3.mono g.size)
  clear g3
  go_wp2_with (refine wpList_loadPg rfl _ rfl _ rfl zs (by assumption) ?_)
  go_loopw [3, 11] (fun fr i wr => ∃ k f : Nat, k ≤ n ∧ i = .int .u64 k ∧ fr = .int .u64 f ∧ Hid (f + 2 + 2 * n + lens zs k = 64) ∧ Arr wr w.heap.size zs ∧ Below w.heap.size w wr) (fun _ i _ => n - (intOf i).toNat)
  case atStart => exact ⟨0, 62 - 2 * n, by omega, rfl, by go_num, by show _ = 64; simp only [lens]; omega, hA, g⟩
  case round =>
    obtain ⟨k, f, hk, rfl, rfl, HF, hA, g⟩ := hrel
    by_cases hlt : k < n
    · have hi : (k : Int) < (n : Int) := by omega
      have hlen : nb zs (3 + 2 * k) ≤ f := by
        have h1 := HF.out
        have h2 := lens_le zs (k + 1) (n - (k + 1))
        rw [show k + 1 + (n - (k + 1)) = n by omega, lens] at h2
        omega
      have hf64 : f ≤ 64 := by have := HF.out; omega
      go_wp2_with (refine wpList_loadPg rfl _ rfl _ rfl zs (by assumption) ?_)
      refine (spanOf_any zs k _ h (by omega)).mono ?_
      rintro e w4 ⟨rfl, g4⟩
      have hA := hA.grown g4
      have g : Below w.heap.size w w4 := g.trans (g4.mono g.size)
      clear g4
      obtain ⟨l, hl⟩ : ∃ l, l = nb zs (3 + 2 * k) := ⟨_, rfl⟩
      obtain ⟨q, hq⟩ : ∃ q, q = nb zs (2 + 2 * k) := ⟨_, rfl⟩
      rw [← hl] at hlen ⊢
      rw [← hq]
      have HL : Hid (l = nb zs (3 + 2 * k)) := hl
      clear hl hq

      have hfd : ∀ W : World, (Instr.field 240 (.agg #[.int .u64 q, .int .u64 l]) 1).run Tryz.prog W = .ok (.int .u64 l) W := fun _ => by kernel_rfl
      go_wp2_with fail
      go_roundw
      case rel => exact ⟨k + 1, f - l, by omega, by go_num, by go_num, by show f - l + 2 + 2 * n + lens zs (k + 1) = 64; have := HF.out; have := HL.out; rw [lens]; omega, hA, g⟩
      case measure => simp [intOf]; omega
    · have e : k = n := by omega
      subst e
      have hfe : f = 62 - 2 * k - lens zs k := by have := HF.out; omega
      have HE : Hid (f = 62 - 2 * k - lens zs k) := hfe
      clear hfe
      go_wp2_with fail
      go_ret
      exact ⟨by rw [← HE.out]; rfl, g⟩

set_option maxHeartbeats 1000000 in
theorem firstEmpty_any (zs : List Int) (w : World) (h : IsPg zs) (hc : nb zs 0 ≤ 16) :
    Calls Tryz.prog 150 #[.agg (pgC zs)] w fun e w' => e = .returned (.int .u64 (firstE zs 0 (nb zs 0))) ∧ Below w.heap.size w w' := by
  obtain ⟨X, hX, hA, g⟩ := boxed zs w h
  obtain ⟨n, hn⟩ : ∃ n, n = nb zs 0 := ⟨_, rfl⟩
  have HN : Hid (n = nb zs 0) := hn
  rw [← hn] at hc ⊢
  clear hn
  go_enter Tryz.func150, Tryz.ntmps150
  go_wp2_with (refine wpList_loadPg rfl _ rfl _ rfl zs (by assumption) ?_)
  refine (slots_any zs _ h).mono ?_
  rintro e w1 ⟨rfl, g1⟩
  rw [← HN.out]
  have hA := hA.grown g1
  have g : Below w.heap.size w w1 := g.trans (g1.mono g.size)
  clear g1 hX
  go_wp2_with (refine wpList_loadPg rfl _ rfl _ rfl zs (by assumption) ?_)
  go_loopw [6] (fun i wr => ∃ k : Nat, k ≤ n ∧ i = .int .u64 k ∧ Hid (firstE zs 0 n = firstE zs k (n - k)) ∧ Arr wr w.heap.size zs ∧ Below w.heap.size w wr) (fun i _ => n - (intOf i).toNat)
  case atStart => exact ⟨0, by omega, rfl, rfl, hA, g⟩
  case round =>
    obtain ⟨k, hk, rfl, HF, hA, g⟩ := hrel
    by_cases hlt : k < n
    · have hi : (k : Int) < (n : Int) := by omega
      go_wp2_with (refine wpList_loadPg rfl _ rfl _ rfl zs (by assumption) ?_)
      refine (spanOf_any zs k _ h (by omega)).mono ?_
      rintro e w4 ⟨rfl, g4⟩
      have hA := hA.grown g4
      have g : Below w.heap.size w w4 := g.trans (g4.mono g.size)
      clear g4
      go_wp2_with fail
      refine (isEmpty_any _ _ _).mono ?_
      rintro e w5 ⟨rfl, g5⟩
      have hA := hA.grown g5
      have g : Below w.heap.size w w5 := g.trans (g5.mono g.size)
      clear g5
      cases hE : empB zs k
      · have HS : Hid (firstE zs 0 n = firstE zs (k + 1) (n - (k + 1))) := by
          show _ = _
          rw [HF.out, show n - k = n - (k + 1) + 1 by omega, firstE, hE]
          rfl
        rw [show (nb zs (2 + 2 * k) == 0 && nb zs (3 + 2 * k) == 0) = false from hE]
        clear hE
        go_wp2_with fail
        go_roundw
        case rel => exact ⟨k + 1, by omega, by go_num, HS, hA, g⟩
        case measure => simp [intOf]; omega
      · have HS : Hid (firstE zs 0 n = k) := by
          show _ = _
          rw [HF.out, show n - k = n - (k + 1) + 1 by omega, firstE, hE]
          rfl
        rw [show (nb zs (2 + 2 * k) == 0 && nb zs (3 + 2 * k) == 0) = true from hE]
        clear hE
        go_wp2_with fail
        go_ret
        exact ⟨by rw [HS.out]; rfl, g⟩
    · have e : k = n := by omega
      subst e
      go_wp2_with (refine wpList_loadPg rfl _ rfl _ rfl zs (by assumption) ?_)
      refine (slots_any zs _ h).mono ?_
      rintro e w1 ⟨rfl, g1⟩
      rw [← HN.out]
      have g : Below w.heap.size w w1 := g.trans (g1.mono g.size)
      clear g1
      go_wp2_with fail
      go_ret
      exact ⟨by rw [HF.out, Nat.sub_self]; rfl, g⟩


set_option maxHeartbeats 1000000 in
theorem implNewPage_any (f : Int) (w : World) :
    Calls Tryz.prog 148 #[.int .u8 f] w fun e w' => e = .returned (.agg #[.int .i64 0, .int .i64 0, .slice (some ⟨w.heap.size + 1, 0, none⟩) 64 64]) ∧ Below w.heap.size w w' ∧ Arr w' (w.heap.size + 1) (newBytes f) := by
  go_enter Tryz.func148, Tryz.ntmps148
  go_wp2_with fail
  generalize hX : World.alloc _ _ = X
  have hR : PRes X w.heap.size 0 0 (.slice none 0 0) := by rw [← hX]; exact ⟨by simp [go_sem], by simp [go_sem], by simp [go_sem], by simp [go_sem], by simp [go_sem], by simp [go_sem]⟩
  have hA : Arr X (w.heap.size + 1) (filled f 0) := by
    rw [← hX]
    have := arr_new (w.alloc (.cells #[.int .i64 0, .int .i64 0, .slice none 0 0] 146)) (filled f 0) rfl
    rw [show (w.alloc (.cells #[.int .i64 0, .int .i64 0, .slice none 0 0] 146)).heap.size = w.heap.size + 1 by simp] at this
    exact this
  have g : Below w.heap.size w X := by rw [← hX]; go_grown
  clear hX
  go_loopw [5] (fun i wr => ∃ k : Nat, k ≤ 64 ∧ i = .int .i64 k ∧ Below w.heap.size w wr ∧ PRes wr w.heap.size 0 0 (.slice none 0 0) ∧ Arr wr (w.heap.size + 1) (filled f k)) (fun i _ => 64 - (intOf i).toNat)
  case atStart => exact ⟨0, by omega, rfl, g, hR, hA⟩
  case round =>
    obtain ⟨k, hk, rfl, g, hR, hA⟩ := hrel
    by_cases hlt : k < 64
    · have e1 := hA.cell k hlt
      have e2 := hA.frozen k
      have hi : (k : Int) < 64 := by omega
      go_wp2
      go_roundw
      case rel => exact ⟨k + 1, by omega, by go_num, g.setCell (by simp) _, hR.other _ _ (by simp), by rw [← filled_set f k hlt]; exact hA.set k f⟩
      case measure => simp [intOf]; omega
    · have e : k = 64 := by omega
      subst e
      have e0 := hA.cell 0 (by omega)
      have e1 := hA.cell 1 (by omega)
      have e2 := hA.frozen 0
      have e3 := hA.frozen 1
      obtain ⟨c0, c1, c2, f0, f1, f2⟩ := hR
      go_wp2
      refine bodyPost_ret (v := .agg #[.int .i64 0, .int .i64 0, .slice (some ⟨w.heap.size + 1, 0, none⟩) 64 64]) (by simp [results, Tryz.results148, go_sem, c0, c1, c2]) rfl ?_
      refine ⟨rfl, by go_grown, ?_⟩
      have h1 := (hA.set 0 0).set 1 64
      rw [filled_new] at h1
      exact ((h1.other _ _ (by simp)).other _ _ (by simp)).other _ _ (by simp)



/-- Bytes are copied into a page. -/
theorem wp_copyPg {o : Oper} {a : Act} {w : World} {K : Act → World → Prop} {Q : Exit → Act → World → Prop} (d s : Operand)
    (ho : o.op = .call { callee := .builtin .copy, args := #[d, s], argTypes := #[22, 22] })
    (b off n dCap : Nat) (ad : Addr) (sCap : Nat) (hd : a.eval d = .slice (some ⟨b, off, none⟩) n dCap) (hs : a.eval s = .slice (some ad) n sCap)
    (zs cs : List Int) (hA : Arr w b zs) (hn : cs.length = n) (hsrc : ∀ j v, (cs.map (Value.int .u8))[j]? = some v → w.cell? (ad.add j) = some v) (hfit : off + n ≤ 64)
    (h : K (a.put o.dst (goInt n)) (w.setRow b (pgC (splice zs off cs)))) : o.wp Tryz.prog a w K Q := by
  have hinf : (Tryz.prog.info? 5).map (·.size) = some 1 := by kernel_rfl
  have hrun := run_copy_row (P := Tryz.prog) w 22 22 o.type 5 b off n dCap ad n sCap (pgC zs) 207 (cs.map (Value.int .u8)) Tryz.underlying22 hinf hA.row (by simp [hn]) hsrc (by rw [pgC_size, hA.len, List.length_map, hn]; exact hfit) (fun v hv => by
    rw [List.mem_map] at hv
    obtain ⟨z, _, rfl⟩ := hv
    rfl)
  have e : ((pgC zs).toList.take off ++ cs.map (Value.int .u8) ++ (pgC zs).toList.drop (off + (cs.map (Value.int .u8)).length)).toArray = pgC (splice zs off cs) := by
    simp [pgC, splice]
  rw [e, List.length_map, hn] at hrun
  unfold Oper.wp
  simp [execOp, ho, resolve, invoke, builtin, hd, hs, hrun, Result.andThen]
  exact h

def WcS (w : World) (b y p n : Nat) (V : World) : Prop := V.cell? ⟨y, 0, none⟩ = some (.int .u64 p) ∧ V.cell? ⟨y, 1, none⟩ = some (.int .u64 n) ∧ (∃ ys, Arr V b ys) ∧ Turned b (b + 1) w V
theorem wcKeep {w : World} {b y p n : Nat} {W V : World} (h : WcS w b y p n W) (hb : Below W.heap.size W V) : WcS w b y p n V := by
  obtain ⟨h1, h2, ⟨ys, h3⟩, h4⟩ := h
  have hy : y < W.heap.size := World.block_lt_of_cell? W _ h1
  exact ⟨(hb.cell (p := ⟨y, 0, none⟩) hy).trans h1, (hb.cell (p := ⟨y, 1, none⟩) hy).trans h2, ⟨ys, h3.grown hb⟩, h4.trans (Turned.ofBelow hb)⟩

set_option maxHeartbeats 2000000 in
theorem writeCell_any (b s p n sb so c : Nat) (zs cs : List Int) (w : World) (hA : Arr w b zs) (hn : cs.length = n) (h1 : 1 ≤ n) (h64 : p + n ≤ 64) (hs : s < 30) (hr : Reads w (some ⟨sb, so, none⟩) cs) :
    Calls Tryz.prog 196 #[.pointer (some ⟨b, 0, none⟩), .int .u64 s, .slice (some ⟨sb, so, none⟩) n c, .int .u64 (p + n : Nat)] w fun e w' => e = .returned (.tuple #[]) ∧ Turned b (b + 1) w w' ∧ Arr w' b (spanSet (splice zs p cs) s p n) := by
  have hblt := hA.lt
  have HNl : Hid (cs.length = n) := hn
  clear hn
  go_enter Tryz.func196, Tryz.ntmps196
  go_upto_region 1 with (fail)
  generalize hX : World.alloc w _ = X
  have gX : Below w.heap.size w X := by rw [← hX]; exact (Below.refl _ _).alloc (Nat.le_refl _) _
  have s0 : X.cell? ⟨w.heap.size, 0, none⟩ = some (.int .u64 p) := by rw [← hX]; simp [go_sem]
  have s1 : X.cell? ⟨w.heap.size, 1, none⟩ = some (.int .u64 n) := by rw [← hX]; simp [go_sem]
  have hAX := hA.grown gX
  have hrX := hr.below gX (Nat.le_refl _)
  have htX : Turned b (b + 1) w X := Turned.ofBelow gX
  clear hX gX hA hr
  have hyb : w.heap.size ≠ b := by omega
  obtain ⟨y, hy⟩ : ∃ y, y = w.heap.size := ⟨_, rfl⟩
  rw [← hy] at s0 s1 hyb ⊢
  clear hy
  obtain ⟨q, hq⟩ : ∃ q, q = p + n := ⟨_, rfl⟩
  have HQ : Hid (p + n = q) := hq.symm
  have hq64 : (q : Int) ≤ 64 := by omega
  have hpq : (p : Int) ≤ (q : Int) := by omega
  have hql : q - p = n := by omega
  have hp64 : ¬ (64 = p) := by omega
  clear hq
  refine wp_region_held_drew (S := fun V => V.cell? ⟨y, 0, none⟩ = some (.int .u64 p) ∧ V.cell? ⟨y, 1, none⟩ = some (.int .u64 n) ∧ (∃ ys, Arr V b ys) ∧ Turned b (b + 1) w V) (by kernel_rfl) ⟨s0, s1, ⟨zs, hAX.grown (Below.refl _ _).drew⟩, htX.trans (Turned.ofBelow (Below.refl _ _).drew)⟩ (fun hHeld => ?_)
  have hAD := hAX.grown (w' := X.drew) (Below.refl _ _).drew
  have hrD := hrX.below (w' := X.drew) (Below.refl _ _).drew (Nat.le_refl _)
  generalize X.drew = D at hHeld hAD hrD ⊢
  clear s0 s1 htX hAX hrX
  refine tkH (i := 0) (v := .pointer (some ⟨b, 0, none⟩)) rfl (Or.inl ⟨by kernel_rfl, fun u hSw => by (try dsimp only at hSw); go_simp; try with_reducible rfl⟩) hHeld ?_
  try simp only [Act.put, tdy]
  refine tkH (i := 1) (v := .pointer (some ⟨b, 0, none⟩)) rfl (Or.inl ⟨by kernel_rfl, fun u hSw => by (try dsimp only at hSw); go_simp; try with_reducible rfl⟩) hHeld ?_
  try simp only [Act.put, tdy]
  refine tkH (i := 2) (v := .pointer (some ⟨y, 0, none⟩)) rfl (Or.inl ⟨by kernel_rfl, fun u hSw => by (try dsimp only at hSw); go_simp; try with_reducible rfl⟩) hHeld ?_
  try simp only [Act.put, tdy]
  refine tkH (i := 3) (v := .int .u64 p) rfl (Or.inl ⟨by kernel_rfl, fun u hSw => by (try dsimp only at hSw); go_simp; try with_reducible rfl⟩) hHeld ?_
  try simp only [Act.put, tdy]
  refine tkH (i := 4) (v := .agg #[.int .u64 p, .int .u64 n]) rfl (Or.inl ⟨by kernel_rfl, fun u hSw => by (try dsimp only at hSw); go_simp; try with_reducible rfl⟩) hHeld ?_
  try simp only [Act.put, tdy]
  refine tkH (i := 7) (v := .slice (some ⟨sb, so, none⟩) n c) rfl (Or.inl ⟨by kernel_rfl, fun u hSw => by (try dsimp only at hSw); go_simp; try with_reducible rfl⟩) hHeld ?_
  try simp only [Act.put, tdy]
  refine wpAnyH_ready (rs := [5]) (by kernel_rfl) (by simp) ?_
  refine AllReadyH.cons rfl (fun K hK => ?_) AllReadyH.nil
  go_simp
  go_wp2_with (go_at_call 182; refine (spanEnd_any p n _ (by omega) (by omega)).mono ?_; rintro e w' ⟨rfl, hb⟩; rw [HQ.out])
  have hAE := hAD.grown hb
  have hrE := hrD.below hb (Nat.le_refl _)
  refine hK.out _ _ (wcKeep hHeld hb) (fun hHeld => ?_)
  clear hAD hrD hb
  clear hK K
  try simp only [Act.put, tdy]
  refine tkH (i := 6) (v := .slice (some ⟨b, p, none⟩) n (64 - p)) rfl (Or.inl ⟨by kernel_rfl, fun u hSw => by (try dsimp only at hSw); go_simp; try with_reducible rfl⟩) hHeld ?_
  try simp only [Act.put, tdy]
  refine wpAnyH_ready (rs := [8]) (by kernel_rfl) (by simp) ?_
  refine AllReadyH.cons rfl (fun K hK => ?_) AllReadyH.nil
  rw [if_pos (by kernel_rfl)]
  refine wp_copyPg _ _ rfl b p n (64 - p) ⟨sb, so, none⟩ c rfl rfl zs cs hAE HNl.out (reads_src hrE) h64 ?_
  obtain ⟨x0, x1, _, ht⟩ := id hHeld
  have hlen : (splice zs p cs).length = 64 := by rw [length_splice _ _ _ (by rw [hAE.len, HNl.out]; exact h64)]; exact hAE.len
  have hAF := hAE.put (ys := splice zs p cs) hlen
  generalize hV : World.setRow _ b (pgC (splice zs p cs)) = V at hAF ⊢
  have cellV : ∀ i u, World.cell? _ ⟨y, i, none⟩ = some u → V.cell? ⟨y, i, none⟩ = some u := fun i u hc => by
    rw [← hV]
    exact (World.cell?_of_block (setRow_other _ b y _ hyb)).trans hc
  have y0 := cellV 0 _ x0
  have y1 := cellV 1 _ x1
  have htV : Turned b (b + 1) w V := ht.trans ⟨by rw [← hV]; rfl, by rw [← hV]; rfl, by rw [← hV]; rfl, by rw [← hV, setRow_size]; exact Nat.le_refl _, fun k hk hn => by rw [← hV]; exact setRow_other _ b k _ (by omega)⟩
  refine hK.out _ _ ⟨y0, y1, ⟨_, hAF⟩, htV⟩ (fun hHeld => ?_)
  clear hK K hV cellV x0 x1 ht hAE hrE
  try simp only [Act.put, tdy]
  refine wpAnyH_done (by kernel_rfl) ?_ _
  go_wp2_with fail
  refine (setSpan_any b s p n _ _ hAF hs (by omega) (by omega)).mono ?_
  rintro e w9 ⟨rfl, ht9, hA9⟩
  have ht := htV.trans ht9
  clear ht9 htV y0 y1 hHeld
  go_wp2_with fail
  go_end0
  exact ⟨rfl, ht, hA9⟩


theorem isPg_set {zs : List Int} (h : IsPg zs) (i v : Nat) (hv : v ≤ 255) : IsPg (zs.set i (v : Int)) :=
  ⟨by rw [List.length_set]; exact h.len, fun z hz => by
    rcases List.mem_or_eq_of_mem_set hz with h1 | h1
    · exact h.bd z h1
    · rw [h1]; omega⟩
theorem isPg_span {zs : List Int} (h : IsPg zs) (s p l : Nat) (hp : p ≤ 255) (hl : l ≤ 255) : IsPg (spanSet zs s p l) := isPg_set (isPg_set h _ p hp) _ l hl
theorem nb_span_head {zs : List Int} (s p l : Nat) : nb (spanSet zs s p l) 0 = nb zs 0 := by
  unfold spanSet nb byt
  simp [List.getD]
theorem PRes.grown {b : Nat} {w w' : World} {q s : Int} {v : Value} (h : PRes w b q s v) (hb : Below w.heap.size w w') : PRes w' b q s v := h.below hb h.lt
theorem PRes.turned {lo hi b : Nat} {w w' : World} {q s : Int} {v : Value} (h : PRes w b q s v) (ht : Turned lo hi w w') (hn : b < lo ∨ hi ≤ b) : PRes w' b q s v :=
  ⟨ht.cell h.c0 (by simp only; omega), ht.cell h.c1 (by simp only; omega), ht.cell h.c2 (by simp only; omega), (ht.frozen h.c0 (by simp only; omega)).trans h.f0, (ht.frozen h.c1 (by simp only; omega)).trans h.f1, (ht.frozen h.c2 (by simp only; omega)).trans h.f2⟩
/-- A page whose slot s tells no cell any more. -/
def drpP (zs : List Int) (s : Nat) : List Int := dropEnd (spanSet zs s 0 0)
def DsPost (zs : List Int) (s : Nat) (w : World) (e : Ending) (w' : World) : Prop := ∃ g, e = .returned (.agg #[.int .i64 0, .int .i64 0, .slice (some ⟨g, 0, none⟩) 64 64]) ∧ Below w.heap.size w w' ∧ w.heap.size ≤ g ∧ Arr w' g (drpP zs s)

set_option maxRecDepth 20000 in
set_option maxHeartbeats 4000000 in
theorem dropSlot_ok (a : Option Addr) (zs : List Int) (c s : Nat) (w : World) (hr : Reads w a zs) (hc : 64 ≤ c) (hz : ∀ z ∈ zs, 0 ≤ z ∧ z ≤ 255) (hf : fltOf zs = 0) (hh : hasC zs s = true) (hs : s < 16) :
    Calls Tryz.prog 132 #[.slice a 64 c, .int .i64 s] w fun e w' => DsPost zs s w e w' := by
  have hF := fine_of hz hf
  have hX : PRes (w.alloc (.cells #[.int .i64 0, .int .i64 0, .slice none 0 0] 146)) w.heap.size 0 0 (.slice none 0 0) := ⟨by simp [go_sem], by simp [go_sem], by simp [go_sem], by simp [go_sem], by simp [go_sem], by simp [go_sem]⟩
  have g : Below w.heap.size w (w.alloc (.cells #[.int .i64 0, .int .i64 0, .slice none 0 0] 146)) := by go_grown
  have hr := hr.below g (Nat.le_refl _)
  obtain ⟨X, hX0⟩ : ∃ X, w.alloc (.cells #[.int .i64 0, .int .i64 0, .slice none 0 0] 146) = X := ⟨_, rfl⟩
  rw [hX0] at hX g hr
  have hcon := loadPage_all a zs 64 c X hF.pg.len (by omega) hc hr hz
  rw [hf, pg, if_pos hF.pg.len] at hcon
  go_enter Tryz.func132, Tryz.ntmps132
  go_wp2_with fail
  refine hcon.mono ?_
  rintro e w1 ⟨rfl, g1⟩
  have hX1 := hX.grown g1
  have g : Below w.heap.size w w1 := g.trans (g1.mono g.size)
  clear hX0 hX g1 hr hcon
  have hpl := hF.pg.len
  go_upto_region 2 with (refine wpList_storePg rfl _ _ rfl _ zs rfl rfl hpl (filled 0 0) (arr_new _ (filled 0 0) rfl) ?_)
  generalize hZ : World.setRow _ w1.heap.size (pgC zs) = Z
  have hA : Arr Z w1.heap.size zs := by rw [← hZ]; exact (arr_new w1 (filled 0 0) rfl).put hpl
  have gZ : Below w1.heap.size w1 Z := by rw [← hZ]; exact setRow_below ((Below.refl _ _).alloc (Nat.le_refl _) _) (Nat.le_refl _) _
  have hX2 := hX1.grown gZ
  have g : Below w.heap.size w Z := g.trans (gZ.mono g.size)
  have hlt := hX1.lt
  clear hZ gZ hX1
  generalize w1.heap.size = b at hA hlt
  have hcl := cellAt_any zs s Z hF.pg hF.few (by simp [Lit.wf, IntKind.min, IntKind.max, IntKind.bits, IntKind.signed]; omega)
  rw [hh] at hcl
  go_wp2_with (refine wpList_loadPg rfl _ rfl _ rfl zs (by assumption) ?_)
  refine hcl.mono ?_
  rintro e w2 ⟨⟨p, l, rfl, _⟩, g2⟩
  have hA2 := hA.grown g2
  have hX3 := hX2.grown g2
  have g : Below w.heap.size w w2 := g.trans (g2.mono g.size)
  clear hcl g2 hA hX2
  go_upto_region 5 with (fail)
  generalize hY : World.alloc w2 _ = Y
  have gY : Below w2.heap.size w2 Y := by rw [← hY]; go_grown
  have hA3 := hA2.grown gY
  have hX4 := hX3.grown gY
  have g : Below w.heap.size w Y := g.trans (gY.mono g.size)
  clear hY gY hA2 hX3
  generalize w2.heap.size = yb
  have hsp := setSpan_any b s 0 0 zs Y hA3 (by omega) (by omega) (by omega)
  go_wp2_with (go_at_call 183; refine hsp.mono ?_)
  rintro e w3 ⟨rfl, t3, hA4⟩
  have hX5 := hX4.turned t3 (.inl hlt)
  have g : Below w.heap.size w w3 := g.trans (t3.toBelow g.size (by omega))
  clear hsp t3 hA3 hX4
  have hde := dropEmptyEnd_any b (spanSet zs s 0 0) w3 hA4 (isPg_span hF.pg s 0 0 (by omega) (by omega)) (by rw [nb_span_head]; exact hF.few)
  go_wp2_with (go_at_call 184; refine hde.mono ?_)
  rintro e w4 ⟨rfl, t4, hA5⟩
  have hX6 := hX5.turned t4 (.inl hlt)
  have g : Below w.heap.size w w4 := g.trans (t4.toBelow g.size (by omega))
  clear hde t4 hA4 hX5
  have hb5 := hA5.lt
  have hx5 := hX6.lt
  have HA5 : Hid (Arr (((w4.setCell ⟨w.heap.size, 0, none⟩ (.int .i64 0)).setCell ⟨w.heap.size, 1, none⟩ (.int .i64 0)).setCell ⟨w.heap.size, 2, none⟩ (.slice (some ⟨b, 0, none⟩) 64 64)) b (drpP zs s)) := ((hA5.other _ _ (by simp; omega)).other _ _ (by simp; omega)).other _ _ (by simp; omega)
  clear hA5
  obtain ⟨c0, c1, c2, f0, f1, f2⟩ := hX6
  go_wp2_with fail
  refine bodyPost_ret (v := .agg #[.int .i64 0, .int .i64 0, .slice (some ⟨b, 0, none⟩) 64 64]) (by simp [results, Tryz.results132, go_sem, c0, c1, c2]) rfl ?_
  exact ⟨b, rfl, by go_grown, by omega, HA5.out⟩

end Go.Proofs.YtnfolgoloaeanaaGreat

