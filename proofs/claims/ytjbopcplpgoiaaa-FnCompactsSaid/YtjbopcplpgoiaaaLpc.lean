/-
  The contract of loadPageAndCell.
-/
import Derived.Test.YtjbopcplpgoiaaaSpu
namespace Go.Proofs.Ytjbopcplpgoiaaa
open Go.RowKit
set_option linter.unusedVariables false

/-- The fault of bytes and of a cell of m bytes. -/
def lcQ (zs : List Int) (m : Nat) : Int := if fltOf zs = 0 then cellQ m else fltOf zs

set_option maxHeartbeats 2000000 in
theorem loadPageAndCell_any (a : Option Addr) (zs : List Int) (n c : Nat) (b : Option Addr) (m d : Nat) (w : World) (hn : zs.length = n) (hm : n ≤ 1048576) (hnc : n ≤ c) (hr : Reads w a zs) (hz : ∀ z ∈ zs, 0 ≤ z ∧ z ≤ 255) (hmm : m ≤ 1048576) :
    Calls Try.prog 48 #[.slice a n c, .slice b m d] w fun e w' => e = .returned (.tuple #[.agg (pgC (pg zs)), .int .i64 (lcQ zs m)]) ∧ Below w.heap.size w w' := by
  have hA := arr_new w (filled 0 0) rfl
  go_enter Try.func48, Try.ntmps48
  go_upto_region 1 with (fail)
  generalize hY : World.alloc w _ = Y
  have hA : Arr Y w.heap.size (filled 0 0) := by rw [← hY]; exact hA
  have g : Below w.heap.size w Y := by rw [← hY]; exact (Below.refl _ _).alloc (Nat.le_refl _) _
  clear hY
  have hr := hr.below g (Nat.le_refl _)
  go_wp2_with fail
  refine (loadPage_all a zs n c _ hn hm hnc hr hz).mono ?_
  rintro e w1 ⟨rfl, g1⟩
  have hA1 := hA.grown g1
  have g : Below w.heap.size w w1 := g.trans (g1.mono g.size)
  clear g1 hA hr
  have hpl := pg_len zs
  obtain ⟨ys, hys⟩ : ∃ ys, ys = pg zs := ⟨_, rfl⟩
  have HY : Hid (ys = pg zs) := hys
  rw [← hys] at hpl ⊢
  clear hys
  go_upto_region 2 with (refine wpList_storePg rfl _ _ rfl _ ys rfl rfl hpl (filled 0 0) (arr_new _ (filled 0 0) rfl) ?_)
  generalize hZ : World.setRow _ w1.heap.size (pgC ys) = Z
  have hy : Arr Z w1.heap.size ys := by rw [← hZ]; exact (arr_new w1 (filled 0 0) rfl).put hpl
  have gZ : Below w1.heap.size w1 Z := by rw [← hZ]; exact setRow_below ((Below.refl _ _).alloc (Nat.le_refl _) _) (Nat.le_refl _) _
  have hx := hA1.grown gZ
  have g : Below w.heap.size w Z := g.trans (gZ.mono g.size)
  clear hZ gZ hA1
  by_cases hq : fltOf zs = 0
  · have HQ : Hid (lcQ zs m = cellQ m) := by show _ = _; unfold lcQ; rw [if_pos hq]
    rw [hq]
    clear hq
    go_wp2_with fail
    refine (cellFault_any b m d _ hmm).mono ?_
    rintro e w' ⟨rfl, hw'⟩
    subst w'
    obtain ⟨q, hqv⟩ : ∃ q, q = cellQ m := ⟨_, rfl⟩
    have HQ2 : Hid (lcQ zs m = q) := by show _ = _; rw [HQ.out, hqv]
    rw [← hqv]
    clear hqv HQ
    go_upto_region 4 with (fail)
    refine wp_region_lit ?_
    refine wpList_loadPg rfl _ rfl _ rfl ys hy ?_
    refine wpList_plain rfl fun K hK => BigFrame.wp_move _ rfl (hK _ _ ?_)
    refine wpList_storePg rfl _ _ rfl w.heap.size ys rfl rfl hpl (filled 0 0) hx ?_
    have hx' := hx.put hpl
    have g' := setRow_below g (Nat.le_refl _) (pgC ys)
    refine wpList_plain rfl fun K hK => BigFrame.wp_assign _ rfl (hK _ _ ?_)
    refine wpList_nil ?_
    simp only [Act.put, List.setIfInBounds_toArray, List.set, Exit.then]
    go_step
    refine wp_ret ?_
    have hld := hx'.loadVar
    refine bodyPost_ret (v := .tuple #[.agg (pgC ys), .int .i64 q]) ?_ rfl ⟨by rw [HQ2.out, HY.out], g'⟩
    rw [results_cell_tmp rfl]
    show ((asAddr (.pointer (some ⟨w.heap.size, 0, none⟩))).run Try.prog _).andThen _ = _
    simp only [asAddr, Sem.run_pure, Result.andThen_ok, hld]
    rfl
  · obtain ⟨q, hqv⟩ : ∃ q, q = fltOf zs := ⟨_, rfl⟩
    have HQ2 : Hid (lcQ zs m = q) := by show _ = _; unfold lcQ; rw [if_neg hq, hqv]
    have dq : (q == 0) = false := by rw [hqv]; simpa using hq
    rw [← hqv]
    clear hqv hq
    go_upto_region 4 with (fail)
    refine wp_region_lit ?_
    refine wpList_loadPg rfl _ rfl _ rfl ys hy ?_
    refine wpList_plain rfl fun K hK => BigFrame.wp_move _ rfl (hK _ _ ?_)
    refine wpList_storePg rfl _ _ rfl w.heap.size ys rfl rfl hpl (filled 0 0) hx ?_
    have hx' := hx.put hpl
    have g' := setRow_below g (Nat.le_refl _) (pgC ys)
    refine wpList_plain rfl fun K hK => BigFrame.wp_assign _ rfl (hK _ _ ?_)
    refine wpList_nil ?_
    simp only [Act.put, List.setIfInBounds_toArray, List.set, Exit.then]
    go_step
    refine wp_ret ?_
    have hld := hx'.loadVar
    refine bodyPost_ret (v := .tuple #[.agg (pgC ys), .int .i64 q]) ?_ rfl ⟨by rw [HQ2.out, HY.out], g'⟩
    rw [results_cell_tmp rfl]
    show ((asAddr (.pointer (some ⟨w.heap.size, 0, none⟩))).run Try.prog _).andThen _ = _
    simp only [asAddr, Sem.run_pure, Result.andThen_ok, hld]
    rfl

end Go.Proofs.Ytjbopcplpgoiaaa
