/-
  The contract of the model's l2Fault: the same fault.
-/
import Derived.Test.YteebbaleejbodaaARMod

namespace Go.Proofs.Yteebbaleejbodaa
open Go.RowKit
set_option linter.unusedVariables false

set_option maxHeartbeats 400000 in
theorem l2Fault_len (a : Option Addr) (n c : Nat) (w : World) (hn : n ≠ 64) (hm : n ≤ 1048576) :
    Calls Try.prog 154 #[.slice a n c] w fun e w' => e = .returned (.int .i64 1) ∧ w' = w := by
  have d : ((n : Int) != 64) = true := by simp; omega
  go_enter Try.func154, Try.ntmps154
  go_wp2_with fail
  go_ret
  exact ⟨rfl, rfl⟩

theorem endB_last (zs : List Int) (n : Nat) (hn : nb zs 0 = n) (h0 : 0 < n) (hw : wrgN zs n = false) : endB zs = (nb zs (3 + 2 * (n - 1)) == 0) := by
  have h1 := wrgN_at zs n hw (n - 1) (by omega)
  rw [endB, hn, show decide (0 < n) = true by simpa using h0, Bool.true_and, empB]
  cases e : (nb zs (3 + 2 * (n - 1)) == 0)
  · simp
  · rw [wrgS, wrongB, e] at h1
    cases e2 : (nb zs (2 + 2 * (n - 1)) == 0)
    · rw [e2] at h1; simp at h1
    · rfl

set_option maxHeartbeats 4000000 in
theorem l2Fault_any (a : Option Addr) (zs : List Int) (c : Nat) (w : World) (hr : Reads w a zs) (h : IsPg zs) :
    Calls Try.prog 154 #[.slice a 64 c] w fun e w' => e = .returned (.int .i64 (faultP zs)) ∧ w' = w := by
  have hnl := nb_lt h 0
  have hml := nb_lt h 1
  obtain ⟨n, hn⟩ : ∃ n, n = nb zs 0 := ⟨_, rfl⟩
  obtain ⟨m, hm⟩ : ∃ m, m = nb zs 1 := ⟨_, rfl⟩
  have HN : Hid (nb zs 0 = n) := hn.symm
  have HM : Hid (nb zs 1 = m) := hm.symm
  have HB : Hid (headB zs = (decide (16 < n) || decide (m < 2 + 2 * n) || decide (64 < m))) := by show _ = _; rw [hn, hm]; rfl
  rw [← hn] at hnl
  rw [← hm] at hml
  clear hn hm
  go_enter Try.func154, Try.ntmps154
  go_wp2_with fail
  refine (l2Count_any a zs c _ hr h).mono ?_
  rintro e w' ⟨rfl, rfl⟩
  rw [HN.out]
  have H3 : Hid (headB zs = true → faultP zs = 3) := fun hh => by rw [faultP, if_pos hh]
  by_cases c1 : 16 < n
  · have HF : Hid (faultP zs = 3) := H3.out (by rw [HB.out]; simp [c1])
    have d1 : decide (16 < n) = true := by simpa using c1
    have i1 : (16 : Int) < (n : Int) := by omega
    go_wp2_with fail
    go_ret
    exact ⟨by rw [HF.out]; rfl, rfl⟩
  have d1 : decide (16 < n) = false := by simpa using c1
  have i1 : ¬ (16 : Int) < (n : Int) := by omega
  go_wp2_with fail
  refine (l2Low_any a zs c _ hr h).mono ?_
  rintro e w' ⟨rfl, rfl⟩
  rw [HM.out]
  by_cases c2 : m < 2 + 2 * n
  · have HF : Hid (faultP zs = 3) := H3.out (by rw [HB.out]; simp [c2])
    have d2 : decide ((m : Int) < 2 + 2 * (n : Int)) = true := by simp; omega
    have i2 : (m : Int) < 2 + 2 * (n : Int) := by omega
    go_wp2_with fail
    go_ret
    exact ⟨by rw [HF.out]; rfl, rfl⟩
  have d2 : decide ((m : Int) < 2 + 2 * (n : Int)) = false := by simp; omega
  go_wp2_with fail
  refine (l2Low_any a zs c _ hr h).mono ?_
  rintro e w' ⟨rfl, rfl⟩
  rw [HM.out]
  by_cases c3 : 64 < m
  · have HF : Hid (faultP zs = 3) := H3.out (by rw [HB.out]; simp [c3])
    have d3 : decide (64 < m) = true := by simpa using c3
    have i3 : (64 : Int) < (m : Int) := by omega
    go_wp2_with fail
    go_ret
    exact ⟨by rw [HF.out]; rfl, rfl⟩
  have d3 : decide (64 < m) = false := by simpa using c3
  have i3 : ¬ (64 : Int) < (m : Int) := by omega
  have H0 : Hid (faultP zs = if wrgN zs n = true then 3 else if (comB zs n || endB zs) = true then 8 else 0) := by
    show _ = _
    rw [faultP, if_neg (by rw [HB.out]; simp [c1, c2, c3]), HN.out]
  go_wp2_with fail
  clear d1 i1 d2 d3 i3 H3 HB
  go_loop [4] (fun i => ∃ k : Nat, k ≤ n ∧ i = .int .i64 k ∧ Hid (wrgN zs k = false)) (fun i => n - (intOf i).toNat)
  case atStart => exact ⟨0, by omega, rfl, rfl⟩
  case round =>
    obtain ⟨k, hk, rfl, HW⟩ := hrel
    by_cases hlt : k < n
    · have hi : (k : Int) < (n : Int) := by omega
      cases hs : wrgS zs k
      · have HS : Hid (wrgS zs k = false) := hs
        have HW' : Hid (wrgN zs (k + 1) = false) := by show _ = _; rw [wrgN, HW.out, hs]; rfl
        clear hs
        go_wp2_with fail
        refine (l2Slot_any a zs c k _ hr h (by omega)).mono ?_
        rintro e w' ⟨rfl, rfl⟩
        rw [HS.out]
        go_wp2_with fail
        go_round
        case rel => exact ⟨k + 1, by omega, by go_num, HW'⟩
        case measure => simp [intOf]; omega
      · have HS : Hid (wrgS zs k = true) := hs
        have HF : Hid (faultP zs = 3) := by
          have h2 := wrgN_more zs (k + 1) (by rw [wrgN, hs]; simp) (n - (k + 1))
          rw [show k + 1 + (n - (k + 1)) = n by omega] at h2
          show _ = _
          rw [H0.out, if_pos h2]
        clear hs
        go_wp2_with fail
        refine (l2Slot_any a zs c k _ hr h (by omega)).mono ?_
        rintro e w' ⟨rfl, rfl⟩
        rw [HS.out]
        go_wp2_with fail
        go_ret
        exact ⟨by rw [HF.out]; rfl, rfl⟩
    · have e : k = n := by omega
      subst e
      have H1 : Hid (faultP zs = if (comB zs k || endB zs) = true then 8 else 0) := by show _ = _; rw [H0.out, if_neg (by rw [HW.out]; simp)]
      have HX : Hid (∀ s, s < k → nb zs (2 + 2 * s) + nb zs (3 + 2 * s) ≤ 64) := fun s hs => wrongB_end _ _ _ (wrgN_at zs k HW.out s hs)
      clear hlt H0 hk
      go_wp2_with fail
      go_loop [5] (fun i => ∃ j : Nat, j ≤ k ∧ i = .int .i64 j ∧ Hid (comB zs j = false)) (fun i => k - (intOf i).toNat)
      case atStart => exact ⟨0, by omega, rfl, rfl⟩
      case round =>
        obtain ⟨j, hj, rfl, HC⟩ := hrel
        by_cases hlt : j < k
        · have hi : (j : Int) < (k : Int) := by omega
          go_wp2_with fail
          go_loop [6] (fun i => ∃ t : Nat, t ≤ j ∧ i = .int .i64 t ∧ Hid (∀ u, u < t → apartB zs j u = true)) (fun i => j - (intOf i).toNat)
          case atStart => exact ⟨0, by omega, rfl, fun u hu => by omega⟩
          case round =>
            obtain ⟨t, ht, rfl, HA⟩ := hrel
            by_cases htl : t < j
            · have hti : (t : Int) < (j : Int) := by omega
              cases hs : apartB zs j t
              · have HS : Hid (apartB zs j t = false) := hs
                have HF : Hid (faultP zs = 8) := by
                  have h1 := hit_of zs j t htl (HX.out j hlt) hs
                  have h2 := comB_more zs (j + 1) (by rw [comB, h1]; simp) (k - (j + 1))
                  rw [show j + 1 + (k - (j + 1)) = k by omega] at h2
                  show _ = _
                  rw [H1.out, h2]
                  rfl
                clear hs
                go_wp2_with fail
                refine (l2Apart_any a zs c j t _ hr h (by omega) (by omega)).mono ?_
                rintro e w' ⟨rfl, rfl⟩
                rw [HS.out]
                go_wp2_with fail
                go_ret
                exact ⟨by rw [HF.out]; rfl, rfl⟩
              · have HS : Hid (apartB zs j t = true) := hs
                have HA' : Hid (∀ u, u < t + 1 → apartB zs j u = true) := fun u hu => by
                  by_cases e : u = t
                  · rw [e]; exact hs
                  · exact HA.out u (by omega)
                clear hs
                go_wp2_with fail
                refine (l2Apart_any a zs c j t _ hr h (by omega) (by omega)).mono ?_
                rintro e w' ⟨rfl, rfl⟩
                rw [HS.out]
                go_wp2_with fail
                go_round
                case rel => exact ⟨t + 1, by omega, by go_num, HA'⟩
                case measure => simp [intOf]; omega
            · have e : t = j := by omega
              subst e
              have HC' : Hid (comB zs (t + 1) = false) := by show _ = _; rw [comB, HC.out, not_hit zs t HA.out]; rfl
              go_wp2_with fail
              go_round
              case rel => exact ⟨t + 1, by omega, by go_num, HC'⟩
              case measure => simp [intOf]; omega
        · have e : j = k := by omega
          subst e
          have H2 : Hid (faultP zs = if endB zs = true then 8 else 0) := by show _ = _; rw [H1.out, HC.out, Bool.false_or]
          clear hlt
          by_cases j0 : j = 0
          · subst j0
            have HF : Hid (faultP zs = 0) := by show _ = _; rw [H2.out, endB, HN.out]; rfl
            go_wp2_with fail
            go_ret
            exact ⟨by rw [HF.out]; rfl, rfl⟩
          · have dj : decide (0 < j) = true := by simp; omega
            have ij : (0 : Int) < (j : Int) := by omega
            have HE : Hid (endB zs = (nb zs (3 + 2 * (j - 1)) == 0)) := endB_last zs j HN.out (by omega) HW.out
            go_wp2_with fail
            rw [show (j : Int) - 1 = ((j - 1 : Nat) : Int) by omega]
            refine (l2Size_any a zs c (j - 1) _ hr h (by omega)).mono ?_
            rintro e w' ⟨rfl, rfl⟩
            obtain ⟨l, hl⟩ : ∃ l, l = nb zs (3 + 2 * (j - 1)) := ⟨_, rfl⟩
            rw [← hl]
            by_cases l0 : l = 0
            · have HF : Hid (faultP zs = 8) := by show _ = _; rw [H2.out, HE.out, ← hl, l0]; rfl
              clear hl
              subst l0
              go_wp2_with fail
              go_ret
              exact ⟨by rw [HF.out]; rfl, rfl⟩
            · have HF : Hid (faultP zs = 0) := by show _ = _; rw [H2.out, HE.out, ← hl, if_neg (by simpa using l0)]
              have dl : ((l : Int) == 0) = false := by simp; omega
              clear hl l0
              go_wp2_with fail
              go_ret
              exact ⟨by rw [HF.out]; rfl, rfl⟩

end Go.Proofs.Yteebbaleejbodaa

/-
  The contract of loadPage: a page as an array of its own, and its fault.
-/
namespace Go.Proofs.Yteebbaleejbodaa
open Go.RowKit
set_option linter.unusedVariables false

theorem pgC_one (ys : List Int) : (pgC ys).all (·.oneCell') = true := by
  unfold pgC
  exact all_oneCell_toArray (fun v hv => by
    rw [List.mem_map] at hv
    obtain ⟨z, _, rfl⟩ := hv
    rfl)
/-- A whole page is written. -/
theorem wpList_storePg {ops : Array Oper} {rest : List Oper} {o : Oper} {a : Act} {w : World} {Q : Exit → Act → World → Prop} (hgd : o.guard = none) (x y : Operand) (ho : o.op = .store 239 x y)
    (g : Nat) (ys : List Int) (hx : a.eval x = .pointer (some ⟨g, 0, none⟩)) (hy : a.eval y = .agg (pgC ys)) (hl : ys.length = 64) (zs : List Int) (hA : Arr w g zs)
    (h : wpList Try.prog ops Q rest (a.put o.dst undef) (w.setRow g (pgC ys))) : wpList Try.prog ops Q (o :: rest) a w :=
  wpList_store_row hgd 239 x y ho g (pgC ys) hx hy 239 (pgC zs) hA.row (by rw [pgC_size, hl]; exact info57) (by rw [pgC_size, pgC_size, hA.len, hl]) (pgC_one ys) h
theorem Arr.put {w : World} {g : Nat} {zs ys : List Int} (h : Arr w g zs) (hl : ys.length = 64) : Arr (w.setRow g (pgC ys)) g ys := ⟨hl, setRow_heap w g _ _ _ _ h.row⟩
theorem setRow_other (w : World) (g k : Nat) (cs : Array Value) (h : k ≠ g) : (w.setRow g cs).heap[k]? = w.heap[k]? := by
  unfold World.setRow
  simp only
  rw [Array.getElem?_modify, if_neg (fun e => h e.symm)]
theorem setRow_size (w : World) (g : Nat) (cs : Array Value) : (w.setRow g cs).heap.size = w.heap.size := by unfold World.setRow; simp
theorem setRow_below {B : Nat} {w w' : World} (h : Below B w w') {g : Nat} (hg : B ≤ g) (cs : Array Value) : Below B w (w'.setRow g cs) :=
  ⟨h.os, h.tape, h.output, by rw [setRow_size]; exact h.size, fun k hk => (setRow_other w' g k cs (by omega)).trans (h.block k hk)⟩

theorem built57 : Try.prog.built 239 [] = some (pgC (filled 0 0)) := by kernel_rfl
/-- A page of zeros is made. -/
theorem wpList_buildPg {ops : Array Oper} {rest : List Oper} {o : Oper} {a : Act} {w : World} {Q : Exit → Act → World → Prop} (hgd : o.guard = none) (ho : o.op = .build 239 #[])
    (h : wpList Try.prog ops Q rest (a.put o.dst (.agg (pgC (filled 0 0)))) w) : wpList Try.prog ops Q (o :: rest) a w := by
  have e : Try.prog.built 239 ((#[] : Array (Nat × Operand)).map fun (i, x) => (i, a.eval x)).toList = some (pgC (filled 0 0)) := by rw [Array.map_empty]; exact built57
  exact wpList_build hgd 239 #[] ho (by rw [e]; rfl) (by rw [e]; exact h)

theorem Arr.loadVar {w : World} {b : Nat} {zs : List Int} (h : Arr w b zs) : (loadVar 239 ⟨b, 0, none⟩).run Try.prog w = .ok (.agg (pgC zs)) w :=
  run_loadVar_row w b 239 239 (pgC zs) (0, 0) _ h.row Try.underlying239 rfl (by rw [pgC_size, h.len]; exact info57)

set_option maxHeartbeats 1000000 in
theorem loadPage_len (a : Option Addr) (n c : Nat) (w : World) (hn : n ≠ 64) (hm : n ≤ 1048576) :
    Calls Try.prog 186 #[.slice a n c] w fun e w' => e = .returned (.tuple #[.agg (pgC (filled 0 0)), .int .i64 1]) ∧ Below w.heap.size w w' := by
  have d : ((n : Int) != 64) = true := by simp; omega
  have hA := arr_new w (filled 0 0) rfl
  go_enter Try.func186, Try.ntmps186
  go_upto_region 1 with (fail)
  generalize hY : World.alloc w _ = Y
  have hA : Arr Y w.heap.size (filled 0 0) := by rw [← hY]; exact hA
  have g : Below w.heap.size w Y := by rw [← hY]; exact (Below.refl _ _).alloc (Nat.le_refl _) _
  clear hY
  go_upto_region 2 with (fail)
  refine wp_region_lit ?_
  refine wpList_buildPg rfl rfl ?_
  refine wpList_storePg rfl _ _ rfl w.heap.size (filled 0 0) rfl rfl rfl (filled 0 0) (by assumption) ?_
  have hA := hA.put (ys := filled 0 0) rfl
  have g : Below w.heap.size w (Y.setRow w.heap.size (pgC (filled 0 0))) := setRow_below g (Nat.le_refl _) _
  generalize Y.setRow w.heap.size (pgC (filled 0 0)) = Z at hA g
  simp only [Act.put, List.setIfInBounds_toArray, List.set]
  refine wpList_plain rfl fun K hK => BigFrame.wp_assign _ rfl (hK _ _ ?_)
  refine wpList_nil ?_
  simp only [Act.put, List.setIfInBounds_toArray, List.set, Exit.then, BigFrame.eval_const]
  go_step
  refine wp_ret ?_
  simp only [Exit.then]
  have hld := hA.loadVar
  refine bodyPost_ret (v := .tuple #[.agg (pgC (filled 0 0)), .int .i64 1]) ?_ rfl ⟨rfl, g⟩
  rw [results_cell_tmp rfl]
  show ((asAddr (.pointer (some ⟨w.heap.size, 0, none⟩))).run Try.prog Z).andThen _ = _
  simp only [asAddr, Sem.run_pure, Result.andThen_ok, hld]
  rfl

/-- What loadPage knows while it asks for the fault. -/
def LdS (w : World) (zs : List Int) (x y : Nat) (V : World) : Prop := (∃ ys, Arr V x ys) ∧ Arr V y zs ∧ Below w.heap.size w V
theorem ldKeep {w : World} {zs : List Int} {x y : Nat} {W V : World} (h : LdS w zs x y W) (hb : Below W.heap.size W V) : LdS w zs x y V := ⟨⟨_, h.1.choose_spec.grown hb⟩, h.2.1.grown hb, h.2.2.trans (hb.mono h.2.2.size)⟩

theorem Reads.range {w : World} {b off : Nat} {zs : List Int} (hr : Reads w (some ⟨b, off, none⟩) zs) : w.rangeAt b off (zs.map (Value.int .u8)) := by
  intro j v hv
  rw [List.getElem?_map] at hv
  cases hz : zs[j]? with
  | none => rw [hz] at hv; cases hv
  | some z =>
    rw [hz] at hv
    simp only [Option.map_some, Option.some.injEq] at hv
    subst hv
    rcases hr with hr | ⟨b', off', ha, hc⟩
    · rw [hr] at hz; simp at hz
    · simp only [Option.some.injEq, Addr.mk.injEq, and_true] at ha
      obtain ⟨rfl, rfl⟩ := ha
      rw [hc j (List.getElem?_eq_some_iff.1 hz).1, List.getD, hz]
      rfl

/-- A slice of 64 bytes as a pointer to a page. -/
theorem wpList_arrayAt {ops : Array Oper} {rest : List Oper} {o : Oper} {a : Act} {w : World} {Q : Exit → Act → World → Prop} (hgd : o.guard = none) (x : Operand) (ho : o.op = .sliceToArrayPointer 239 x)
    (ad : Option Addr) (c : Nat) (hx : a.eval x = .slice ad 64 c) (h : wpList Try.prog ops Q rest (a.put o.dst (.pointer ad)) w) : wpList Try.prog ops Q (o :: rest) a w :=
  wpList_plain hgd fun _ hK => by
    unfold Oper.wp execOp
    simp only [ho, hx, Instr.arrayAt, Sem.run_bind, run_underlying Try.underlying239, Result.andThen_ok, Nat.lt_irrefl, if_false, Sem.run_pure]
    exact hK _ _ h
theorem wp_storePg {o : Oper} {a : Act} {w : World} {K : Act → World → Prop} {Q : Exit → Act → World → Prop} (x y : Operand) (ho : o.op = .store 239 x y)
    (g : Nat) (ys : List Int) (hx : a.eval x = .pointer (some ⟨g, 0, none⟩)) (hy : a.eval y = .agg (pgC ys)) (hl : ys.length = 64) (zs : List Int) (hA : Arr w g zs)
    (h : K (a.put o.dst undef) (w.setRow g (pgC ys))) : o.wp Try.prog a w K Q :=
  wp_store_row 239 x y ho g (pgC ys) hx hy 239 (pgC zs) hA.row (by rw [pgC_size, hl]; exact info57) (by rw [pgC_size, pgC_size, hA.len, hl]) (pgC_one ys) h
theorem Arr.row_other {w : World} {b g : Nat} {zs : List Int} (h : Arr w b zs) (hn : b ≠ g) (cs : Array Value) : Arr (w.setRow g cs) b zs := ⟨h.len, (setRow_other w g b cs hn).trans h.row⟩

set_option maxRecDepth 10000 in
set_option maxHeartbeats 2000000 in
theorem loadPage_any (a : Option Addr) (zs : List Int) (c : Nat) (w : World) (hr : Reads w a zs) (h : IsPg zs) (hc : 64 ≤ c) :
    Calls Try.prog 186 #[.slice a 64 c] w fun e w' => e = .returned (.tuple #[.agg (pgC zs), .int .i64 (faultP zs)]) ∧ Below w.heap.size w w' := by
  have hA := arr_new w (filled 0 0) rfl
  obtain ⟨b, off, rfl, hcells⟩ := hr.page h
  have hb : b < w.heap.size := World.block_lt_of_cell? w _ (hcells 0 (by omega))
  clear hcells
  go_enter Try.func186, Try.ntmps186
  go_upto_region 1 with (fail)
  generalize hY : World.alloc w _ = Y
  have hA : Arr Y w.heap.size (filled 0 0) := by rw [← hY]; exact hA
  have g : Below w.heap.size w Y := by rw [← hY]; exact (Below.refl _ _).alloc (Nat.le_refl _) _
  clear hY
  have hr := hr.below g (Nat.le_refl _)
  have hrg : Y.rangeAt b off (zs.map (Value.int .u8)) := hr.range
  have hin : (Try.prog.info? 239).map (·.size) = some (zs.map (Value.int .u8)).length := by rw [List.length_map, h.len]; exact info57
  have hlt := hA.lt
  go_upto_region 3 with (fail)
  go_wp2_with (first | refine wpList_arrayAt rfl _ rfl _ _ rfl ?_ | refine wpList_load_mid rfl 239 _ rfl b off rfl _ _ hrg Try.underlying239 rfl hin ?_ | refine wpList_storePg rfl _ _ rfl Y.heap.size zs rfl rfl h.len (filled 0 0) (arr_new Y (filled 0 0) rfl) ?_)
  generalize hZ : World.setRow _ Y.heap.size (pgC zs) = Z
  have hx : Arr Z w.heap.size (filled 0 0) := by rw [← hZ]; exact (hA.alloc _).row_other (by omega) _
  have hy : Arr Z Y.heap.size zs := by rw [← hZ]; exact (arr_new Y (filled 0 0) rfl).put h.len
  have g : Below w.heap.size w Z := by rw [← hZ]; exact setRow_below (g.alloc g.size _) (by omega) _
  clear hZ hrg hr hin
  go_upto_region 4 with (fail)
  refine wp_region_held_drew (S := fun V => (∃ ys, Arr V w.heap.size ys) ∧ Arr V Y.heap.size zs ∧ Below w.heap.size w V) (by kernel_rfl) ⟨⟨_, hx.grown (Below.refl _ _).drew⟩, hy.grown (Below.refl _ _).drew, g.drew⟩ (fun hHeld => ?_)
  refine wpAnyH_take (i := 0) (v := .agg (pgC zs)) rfl (by kernel_rfl) (by kernel_rfl) (by kernel_rfl) (fun _ _ _ h => h) (yieldsIf_loadPg (by kernel_rfl) _ rfl Y.heap.size rfl zs (fun W hS => hS.2.1)) hHeld ?_
  try simp only [List.getElem_toArray]
  try simp only [List.getElem_cons_succ]
  try simp only [List.getElem_cons_zero]
  try simp only [Act.put]
  try simp only [List.setIfInBounds_toArray]
  try simp only [List.set]
  refine wpAnyH_take (i := 1) (v := .agg (pgC zs)) rfl (by kernel_rfl) (by kernel_rfl) (by kernel_rfl) (fun _ _ _ h => h) (yieldsIf_loadPg (by kernel_rfl) _ rfl Y.heap.size rfl zs (fun W hS => hS.2.1)) hHeld ?_
  try simp only [List.getElem_toArray]
  try simp only [List.getElem_cons_succ]
  try simp only [List.getElem_cons_zero]
  try simp only [Act.put]
  try simp only [List.setIfInBounds_toArray]
  try simp only [List.set]
  refine wpAnyH_ready (rs := [2]) (by kernel_rfl) (by simp) ?_
  refine AllReadyH.cons rfl (fun K hK => ?_) AllReadyH.nil
  go_simp
  go_wp2_with (go_at_call 203; refine (fault_any zs _ h).mono ?_; rintro e w' ⟨rfl, hb⟩)
  refine hK.out _ _ (ldKeep hHeld hb) (fun hHeld => ?_)
  clear hK K
  try simp only [Act.put]
  try simp only [List.setIfInBounds_toArray]
  try simp only [List.set]
  refine wpAnyH_ready (rs := [3]) (by kernel_rfl) (by simp) ?_
  refine AllReadyH.cons rfl (fun K hK => ?_) AllReadyH.nil
  rw [if_pos (by kernel_rfl)]
  obtain ⟨ys, hx⟩ := hHeld.1
  have hy := hHeld.2.1
  have g := hHeld.2.2
  refine wp_storePg _ _ rfl w.heap.size zs rfl rfl h.len ys hx ?_
  have hx' := hx.put h.len
  have hy' : Arr (World.setRow _ w.heap.size (pgC zs)) Y.heap.size zs := hy.row_other (by omega) (pgC zs)
  have g' := setRow_below g (Nat.le_refl _) (pgC zs)
  refine hK.out _ _ ⟨⟨_, hx'⟩, hy', g'⟩ (fun hHeld => ?_)
  clear hK K
  try simp only [Act.put]
  try simp only [List.setIfInBounds_toArray]
  try simp only [List.set]
  refine wpAnyH_take (i := 4) (v := .int .i64 (faultP zs)) rfl (by kernel_rfl) (by kernel_rfl) (by kernel_rfl) (fun _ _ _ h => h) (Or.inl ⟨by kernel_rfl, fun u hSw => by (try dsimp only at hSw); go_simp; try with_reducible rfl⟩) hHeld ?_
  try simp only [List.getElem_toArray]
  try simp only [List.getElem_cons_succ]
  try simp only [List.getElem_cons_zero]
  try simp only [Act.put]
  try simp only [List.setIfInBounds_toArray]
  try simp only [List.set]
  refine wpAnyH_done (by kernel_rfl) ?_ _
  go_step
  go_step
  refine wp_ret ?_
  have hld := hx'.loadVar
  refine bodyPost_ret (v := .tuple #[.agg (pgC zs), .int .i64 (faultP zs)]) ?_ rfl ⟨rfl, hHeld.2.2⟩
  rw [results_cell_tmp rfl]
  show ((asAddr (.pointer (some ⟨w.heap.size, 0, none⟩))).run Try.prog _).andThen _ = _
  simp only [asAddr, Sem.run_pure, Result.andThen_ok, hld]
  rfl

end Go.Proofs.Yteebbaleejbodaa
