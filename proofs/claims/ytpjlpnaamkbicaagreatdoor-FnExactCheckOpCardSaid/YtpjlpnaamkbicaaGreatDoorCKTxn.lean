/-
  The program's keysOf: keys of rows and locks, each once.
-/
import Derived.Test.YtpjlpnaamkbicaaGreatDoorCKTxk
import Derived.Test.YtpjlpnaamkbicaaGreatDoorCKChw

namespace Go.Proofs.YtpjlpnaamkbicaaGreatDoor
open Go.RowKit Go.Maps
set_option linter.unusedVariables false
set_option maxRecDepth 20000

def kyR (r : Rw) : K2 := ⟨r.t, r.k⟩
def rowK (rs : List Rw) : List K2 := (rs.map kyR).foldl withL []
theorem rowK_step {rs : List Rw} {j : Nat} {r : Rw} (h : rs[j]? = some r) : rowK (rs.take (j + 1)) = withL (rowK (rs.take j)) (kyR r) := by
  unfold rowK
  rw [take_snoc h, List.map_append, List.foldl_append]
  rfl
theorem rowK_len (rs : List Rw) : (rowK rs).length ≤ rs.length := by
  have h := fold_len (rs.map kyR) []
  unfold rowK
  simpa using h
def allRK (rs : List Rw) (xs : List TxV) : List K2 := xs.foldl (fun L x => x.l.foldl withL L) (rowK rs)
theorem allRK_step {rs : List Rw} {xs : List TxV} {j : Nat} {x : TxV} (h : xs[j]? = some x) : allRK rs (xs.take (j + 1)) = x.l.foldl withL (allRK rs (xs.take j)) := by
  unfold allRK
  rw [take_snoc h, List.foldl_append]
  rfl
theorem allRK_len (rs : List Rw) (xs : List TxV) : (allRK rs xs).length ≤ rs.length + cntL xs := Nat.le_trans (allK_len xs (rowK rs)) (Nat.add_le_add_right (rowK_len rs) _)

set_option maxHeartbeats 8000000 in
theorem keysOf_any (ra : Option Addr) (rs : List Rw) (rn rc : Nat) (a : Option Addr) (xs : List TxV) (n c : Nat) (w : World) (hrn : rs.length = rn) (hrm : rn ≤ 1048576) (hrr : Rs rwE 4 w ra rs) (hn : xs.length = n) (hm : n ≤ 4) (hs : ∀ x ∈ xs, TxOk 1048576 x) (hr : TxRd w a xs) :
    Calls Tryz.prog 101 #[.slice ra rn rc, .slice a n c] w fun e w' => ∃ a' c', e = .returned (.slice a' (allRK rs xs).length c') ∧ Below w.heap.size w w' := by
  have HRn : Hid (rs.length = rn) := hrn
  have HRr : Hid (Rs rwE 4 w ra rs) := hrr
  have HN : Hid (xs.length = n) := hn
  have HR : Hid (TxRd w a xs) := hr
  have HS : Hid (∀ x ∈ xs, TxOk 1048576 x) := hs
  have hcb : ∀ j, cntL (xs.take j) ≤ 4 * 1048576 := fun j => by
    have h1 := cntL_le (xs := xs.take j) (m := 1048576) (fun y hy => (hs y (List.mem_of_mem_take hy)).2.2.2)
    have h2 : (xs.take j).length ≤ 4 := by rw [List.length_take]; omega
    exact Nat.le_trans h1 (Nat.mul_le_mul_right 1048576 h2)
  have HCb : Hid (∀ j, (allRK rs (xs.take j)).length ≤ 8000000) := fun j => Nat.le_trans (allRK_len rs (xs.take j)) (by have := hcb j; omega)
  clear hrn hrr hn hr hs hcb
  go_enter Tryz.func101, Tryz.ntmps101
  go_upto_region 3 with (fail)
  go_loopw [12, 5] (fun i v wr => ∃ (j : Nat) (a' : Option Addr) (c' m : Nat), j ≤ rn ∧ i = .int .i64 j ∧ v = .slice a' m c' ∧ Hid ((rowK (rs.take j)).length = m) ∧ Below w.heap.size w wr ∧ wr.ownsRow w.heap.size 97 2 (.slice a' m c') (rowK (rs.take j)).length (flat kyE (rowK (rs.take j)))) (fun i _ _ => rn - (intOf i).toNat)
  case atStart => exact ⟨0, none, 0, 0, Nat.zero_le _, rfl, rfl, rfl, Below.refl _ _, ownsRow_nil _ _ _ _⟩
  case round =>
    obtain ⟨j, a', c', m, hj, rfl, rfl, hmm, g, ho⟩ := hrel
    by_cases hlt : j < rn
    · have hjn : (j : Int) < (rn : Int) := by omega
      obtain ⟨x, hx⟩ := at_lt (rs := rs) (i := j) (by rw [HRn.out]; exact hlt)
      obtain ⟨b, off, rfl, X0⟩ := HRr.out.row hx
      have X := X0.below g (World.block_lt_of_cell? w _ X0.c0)
      have HK : Hid (rowK (rs.take (j + 1)) = withL (rowK (rs.take j)) (kyR x)) := rowK_step hx
      have hml : m ≤ 10000000 := by
        have h1 := rowK_len (rs.take j)
        have h2 := hmm.out
        rw [List.length_take] at h1
        omega
      clear hx X0
      generalize rowK (rs.take j) = M at hmm ho HK
      obtain ⟨xt, xk, xv, xs'⟩ := x
      obtain ⟨x0, x1, x2, x3⟩ := X
      dsimp only at x0 x1 x2 x3
      have HK : Hid (rowK (rs.take (j + 1)) = withL M ⟨xt, xk⟩) := HK.out
      go_upto_region 5 with (fail)
      generalize hY : World.alloc _ _ = Y7
      have g7 : Below wr.heap.size wr Y7 := by rw [← hY]; go_grown
      have z0 : Y7.cell? ⟨wr.heap.size, 0, none⟩ = some (.int .i64 xt) := by rw [← hY]; simp [go_sem]
      have z1 : Y7.cell? ⟨wr.heap.size, 1, none⟩ = some (.int .i64 xk) := by rw [← hY]; simp [go_sem]
      have z2 : Y7.cell? ⟨wr.heap.size, 2, none⟩ = some (.int .i64 xv) := by rw [← hY]; simp [go_sem]
      have z3 : Y7.cell? ⟨wr.heap.size, 3, none⟩ = some (.string xs') := by rw [← hY]; simp [go_sem]
      have ho := ownsRow_below ho g7
      have g := g.trans (g7.mono g.size)
      clear hY x0 x1 x2 x3 g7
      generalize wr.heap.size = kb at z0 z1 z2 z3 ⊢
      go_wp2_with fail
      refine (keyOf_any xt xk xv xs' _).mono ?_
      rintro e W0 ⟨rfl, g0⟩
      have ho := ownsRow_below ho g0
      have g := g.trans (g0.mono g.size)
      clear g0 z0 z1 z2 z3
      have hcon := with_any w a' M m c' xt xk W0 hmm.out hml g ho
      go_wp2_with fail
      refine hcon.mono ?_
      rintro e W1 ⟨a2, c2, rfl, g2, ho2, -, -⟩
      rw [← HK.out] at ho2 ⊢
      clear hcon ho g hmm
      obtain ⟨m2, hm2⟩ : ∃ m2, (rowK (rs.take (j + 1))).length = m2 := ⟨_, rfl⟩
      have HM2 : Hid ((rowK (rs.take (j + 1))).length = m2) := hm2
      have HO : Hid (W1.ownsRow w.heap.size 97 2 (.slice a2 m2 c2) (rowK (rs.take (j + 1))).length (flat kyE (rowK (rs.take (j + 1))))) := by show World.ownsRow _ _ _ _ _ _ _; rw [← hm2]; exact ho2
      rw [hm2]
      clear hm2 ho2 HK
      go_wp2_with fail
      go_roundw
      case rel => exact ⟨j + 1, a2, c2, m2, by omega, by go_num, rfl, HM2, g2, HO.out⟩
      case measure => simp [intOf]; omega
    · have e : j = rn := by omega
      subst e
      have HE : Hid (rowK (rs.take j) = allRK rs (xs.take 0)) := by show _ = _; rw [List.take_of_length_le (by rw [HRn.out]; exact Nat.le_refl _)]; rfl
      rw [HE.out] at hmm ho
      clear HE
      go_upto_region 8 with (fail)
      go_loopw [23, 5] (fun i v wr => ∃ (j : Nat) (a' : Option Addr) (c' m : Nat), j ≤ n ∧ i = .int .i64 j ∧ v = .slice a' m c' ∧ Hid ((allRK rs (xs.take j)).length = m) ∧ Below w.heap.size w wr ∧ wr.ownsRow w.heap.size 97 2 (.slice a' m c') (allRK rs (xs.take j)).length (flat kyE (allRK rs (xs.take j)))) (fun i _ _ => n - (intOf i).toNat)
      case atStart => exact ⟨0, a', c', m, Nat.zero_le _, rfl, rfl, hmm, g, ho⟩
      case round =>
        clear g ho hmm
        obtain ⟨i, a3, c3', m3, hi, rfl, rfl, hmm, g, ho⟩ := hrel
        by_cases hlt2 : i < n
        · have hin : (i : Int) < (n : Int) := by omega
          obtain ⟨x, hx⟩ := at_ltT (xs := xs) (i := i) (by rw [HN.out]; exact hlt2)
          obtain ⟨b, off, ua, ma, la, uc, mc, lc, e, Z0⟩ := HR.out.at hx
          obtain rfl := e
          have Z := Z0.below g
          have HRl : Hid (Rs kyE 2 w la x.l) := Z0.l
          have hok := (HS.out x (List.mem_of_getElem? hx)).2.2.2
          have HK : Hid (allRK rs (xs.take (i + 1)) = x.l.foldl withL (allRK rs (xs.take i))) := allRK_step hx
          have hmb : m3 ≤ 8000000 := by have h1 := HCb.out i; have h2 := hmm.out; omega
          clear hx Z0
          generalize allRK rs (xs.take i) = M at hmm ho HK
          obtain ⟨id, us, ms, ls⟩ := x
          obtain ⟨c0, c1, c2, c3, -, -, -⟩ := Z
          dsimp only at c0 c1 c2 c3 HK HRl hok
          have hcon := fun V hV hO => withAll_any w a3 M m3 c3' la ls ls.length lc V hmm.out hmb rfl hok HRl.out (hV : Below w.heap.size w V) hO
          generalize us.length = un at c1
          generalize ms.length = mn at c2
          generalize ls.length = ln at c3 hcon hok
          go_upto_region 10 with (fail)
          generalize hY : World.alloc _ _ = Y7
          have g7 : Below wr.heap.size wr Y7 := by rw [← hY]; go_grown
          have Z : T4 Y7 wr.heap.size id ua un uc ma mn mc la ln lc := by rw [← hY]; exact ⟨by simp [go_sem], by simp [go_sem], by simp [go_sem], by simp [go_sem]⟩
          have ho := ownsRow_below ho g7
          have g := g.trans (g7.mono g.size)
          clear hY c0 c1 c2 c3 g7
          generalize wr.heap.size = tb at Z ⊢
          have hcon := hcon Y7 g ho
          obtain ⟨z0, z1, z2, z3⟩ := Z
          go_wp2_with fail
          refine hcon.mono ?_
          rintro e W1 ⟨a2, c2, rfl, g2, ho2, -, -⟩
          rw [← HK.out] at ho2 ⊢
          clear hcon z0 z1 z2 z3 ho g hmm
          obtain ⟨m2, hm2⟩ : ∃ m2, (allRK rs (xs.take (i + 1))).length = m2 := ⟨_, rfl⟩
          have HM2 : Hid ((allRK rs (xs.take (i + 1))).length = m2) := hm2
          have HO : Hid (W1.ownsRow w.heap.size 97 2 (.slice a2 m2 c2) (allRK rs (xs.take (i + 1))).length (flat kyE (allRK rs (xs.take (i + 1))))) := by show World.ownsRow _ _ _ _ _ _ _; rw [← hm2]; exact ho2
          rw [hm2]
          clear hm2 ho2 HK
          go_wp2_with fail
          go_roundw
          case rel => exact ⟨i + 1, a2, c2, m2, by omega, by go_num, rfl, HM2, g2, HO.out⟩
          case measure => simp [intOf]; omega
        · have e : i = n := by omega
          subst e
          have HE : Hid (xs.take i = xs) := List.take_of_length_le (by rw [HN.out]; exact Nat.le_refl _)
          have HM : Hid ((allRK rs xs).length = m3) := by have h := hmm.out; rw [HE.out] at h; exact h
          clear ho hmm
          go_wp2_with fail
          refine bodyPost_ret (v := .slice a3 m3 c3') (by simp [results, Tryz.results101, go_sem]) rfl ?_
          rw [HM.out]
          exact ⟨a3, c3', rfl, g⟩

end Go.Proofs.YtpjlpnaamkbicaaGreatDoor
