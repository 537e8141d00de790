/-
  The program's TxsFault.
-/
import Derived.Test.YtpjlpnaamkbicaaGreatDoorCKTxj

namespace Go.Proofs.YtpjlpnaamkbicaaGreatDoor
open Go.RowKit Go.Maps
set_option linter.unusedVariables false
set_option maxRecDepth 20000

theorem elK : ElT 130 97 kyE 2 16 where
  und := Tryz.underlying130
  inf := by obtain ⟨i, h1, h2, h3, h4⟩ := infoK; exact ⟨i, _, h1, h2, h3, h4, rfl⟩
  len := kyE_len
  one := by intro x u hu; simp [kyE] at hu; rcases hu with rfl | rfl <;> rfl
  pos := by decide
  few := by decide
def withL (L : List K2) (k : K2) : List K2 := if hasK L k = true then L else L ++ [k]
theorem withL_len (L : List K2) (k : K2) : (withL L k).length ≤ L.length + 1 := by
  unfold withL
  split <;> simp

/-- Blocks that were there stay but for one; a slice that stays in its block or has a new one. -/
structure Kp (w w' : World) (o : Option Nat) : Prop where
  size : w.heap.size ≤ w'.heap.size
  block : ∀ k, k < w.heap.size → some k ≠ o → w'.heap[k]? = w.heap[k]?
def Nx (w : World) (o o' : Option Nat) : Prop := o' = o ∨ ∃ g, o' = some g ∧ w.heap.size ≤ g
theorem Kp.of {w w' : World} {o : Option Nat} (h : Below w.heap.size w w') : Kp w w' o := ⟨h.size, fun k hk _ => h.block k hk⟩
theorem Kp.trans {w w1 w2 : World} {o o1 : Option Nat} (h1 : Kp w w1 o) (h2 : Kp w1 w2 o1) (hn : Nx w o o1) : Kp w w2 o :=
  ⟨Nat.le_trans h1.size h2.size, fun k hk hne => (h2.block k (Nat.lt_of_lt_of_le hk h1.size) (fun e => by
    rcases hn with hn | ⟨g, hn, hg⟩
    · exact hne (e.trans hn)
    · rw [hn] at e; injection e with e; omega)).trans (h1.block k hk hne)⟩
theorem Nx.trans {w w1 : World} {o o1 o2 : Option Nat} (h1 : Nx w o o1) (hs : w.heap.size ≤ w1.heap.size) (h2 : Nx w1 o1 o2) : Nx w o o2 := by
  rcases h2 with h2 | ⟨g, h2, hg⟩
  · rw [h2]; exact h1
  · exact .inr ⟨g, h2, Nat.le_trans hs hg⟩

set_option maxHeartbeats 4000000 in
theorem with_any (w₀ : World) (a : Option Addr) (L : List K2) (n c : Nat) (x y : Int) (w : World) (hn : L.length = n) (hm : n ≤ 10000000) (g : Below w₀.heap.size w₀ w) (ho : w.ownsRow w₀.heap.size 97 2 (.slice a n c) L.length (flat kyE L)) :
    Calls Tryz.prog 102 #[.slice a n c, .agg #[.int .i64 x, .int .i64 y]] w fun e w' => ∃ a' c', e = .returned (.slice a' (withL L ⟨x, y⟩).length c') ∧ Below w₀.heap.size w₀ w' ∧ w'.ownsRow w₀.heap.size 97 2 (.slice a' (withL L ⟨x, y⟩).length c') (withL L ⟨x, y⟩).length (flat kyE (withL L ⟨x, y⟩)) ∧ Kp w w' (Value.slice a n c).ownBlock ∧ Nx w (Value.slice a n c).ownBlock (Value.slice a' (withL L ⟨x, y⟩).length c').ownBlock := by
  have hrd : ∀ V, Below w.heap.size w V → Rs kyE 2 V a L := fun V hV => by
    obtain ⟨a', c', e, _, hi, _⟩ := SlIn.ofRow kyE_len ho
    cases e
    exact hi.reads.below hV (Nat.le_refl _)
  have HC : Hid (∀ V, Below w.heap.size w V → Calls Tryz.prog 112 #[.slice a n c, .agg #[.int .i64 x, .int .i64 y]] V fun e w' => e = .returned (.bool (hasK L ⟨x, y⟩)) ∧ Below V.heap.size V w') := fun V hV => has_any a L n c x y V hn (by omega) (hrd V hV)
  have HW : Hid (withL L ⟨x, y⟩ = if hasK L ⟨x, y⟩ = true then L else L ++ [⟨x, y⟩]) := rfl
  have HN : Hid (L.length = n) := hn
  generalize hasK L ⟨x, y⟩ = f at HC HW
  obtain ⟨M, hM⟩ : ∃ M, withL L ⟨x, y⟩ = M := ⟨_, rfl⟩
  rw [hM] at HW ⊢
  have hnL : L.length ≤ 10000000 := by omega
  clear hM hrd hn
  go_enter Tryz.func102, Tryz.ntmps102
  go_upto_region 1 with (fail)
  generalize hY : World.alloc _ _ = Y
  have gY : Below w.heap.size w Y := by rw [← hY]; go_grown
  have k0 : Y.cell? ⟨w.heap.size, 0, none⟩ = some (.int .i64 x) := by rw [← hY]; simp [go_sem]
  have k1 : Y.cell? ⟨w.heap.size, 1, none⟩ = some (.int .i64 y) := by rw [← hY]; simp [go_sem]
  clear hY
  have hcon := HC.out Y gY
  have ho := ownsRow_below ho gY
  have g := g.trans (gY.mono g.size)
  have lk := World.block_lt_of_cell? _ _ k0
  have HGW : Hid (Below w.heap.size w Y) := gY
  clear gY HC
  obtain ⟨kb, hkb⟩ : ∃ kb, w.heap.size = kb := ⟨_, rfl⟩
  rw [hkb] at k0 k1 lk
  simp only [hkb]
  have HKB : Hid (w.heap.size = kb) := hkb
  clear hkb
  go_wp2_with fail
  refine hcon.mono ?_
  rintro e W1 ⟨rfl, g1⟩
  have k0 := (g1.cell (p := ⟨kb, 0, none⟩) lk).trans k0
  have k1 := (g1.cell (p := ⟨kb, 1, none⟩) lk).trans k1
  have ho := ownsRow_below ho g1
  have g := g.trans (g1.mono g.size)
  have HG1 : Hid (Below w.heap.size w W1) := HGW.out.trans (g1.mono HGW.out.size)
  clear g1 hcon lk HGW
  cases f
  · have HW2 : Hid (M = L ++ [⟨x, y⟩]) := by have h := HW.out; show _ = _; simpa using h
    clear HW
    go_wp2_with (at_builtin; refine wpList_append_sl elK _ rfl _ _ rfl w₀.heap.size _ L [(⟨x, y⟩ : K2)] (some ⟨W1.heap.size, 0, none⟩) 1 1 rfl rfl rfl (ownsRow_below ho (by go_grown)) (rs_one (enc := kyE) W1 (⟨x, y⟩ : K2) 97) (show L.length + 1 ≤ 100000000 by omega) (by have := g.size; simp; omega) ?_)
    intro v' w' ho' hg' hob
    have gAl : Below W1.heap.size W1 (W1.alloc (.cells (kyE (⟨x, y⟩ : K2)).toArray 97)) := by go_grown
    have g' : Below w₀.heap.size w₀ w' := Below.grown (g.trans (gAl.mono g.size)) hg' (by have := g.size; have := gAl.size; omega) (fun k e => by have := (ho.lt k e).1; omega)
    have HO : Hid (w'.ownsRow w₀.heap.size 97 2 v' M.length (flat kyE M)) := by
      rw [HW2.out]
      show World.ownsRow _ _ _ _ _ _ _
      rw [List.length_append]; exact ho'
    have HKp : Hid (Kp w w' (Value.slice a n c).ownBlock) := ⟨Nat.le_trans HG1.out.size (Nat.le_trans gAl.size hg'.size), fun k hk hne => (hg'.block k (Nat.lt_of_lt_of_le hk (Nat.le_trans HG1.out.size gAl.size)) hne).trans ((gAl.block k (Nat.lt_of_lt_of_le hk HG1.out.size)).trans (HG1.out.block k hk))⟩
    have HNx : Hid (Nx w (Value.slice a n c).ownBlock v'.ownBlock) := by
      rcases hob with h | h
      · exact .inl h
      · refine .inr ⟨_, h, ?_⟩
        have h1 := HG1.out.size
        simp
        omega
    clear ho ho' hg' hob gAl g k0 k1
    obtain ⟨a', c', rfl, _⟩ := SlIn.ofRow kyE_len HO.out
    go_wp2_with fail
    refine bodyPost_ret (v := .slice a' M.length c') (by simp [results, Tryz.results102, go_sem]) rfl ?_
    exact ⟨a', c', rfl, g', HO.out, HKp.out, HNx.out⟩
  · have HW2 : Hid (M = L) := by have h := HW.out; show _ = _; simpa using h
    have HO : Hid (W1.ownsRow w₀.heap.size 97 2 (.slice a n c) L.length (flat kyE L)) := ho
    clear HW k0 k1 ho
    go_wp2_with fail
    refine bodyPost_ret (v := .slice a n c) (by simp [results, Tryz.results102, go_sem]) rfl ?_
    rw [HW2.out, HN.out]
    have h := HO.out
    rw [HN.out] at h
    exact ⟨a, c, rfl, g, h, Kp.of HG1.out, .inl rfl⟩

theorem fold_len : ∀ (ls L : List K2), (ls.foldl withL L).length ≤ L.length + ls.length
  | [], L => by simp
  | k :: ks, L => by
    have h1 := fold_len ks (withL L k)
    have h2 := withL_len L k
    simp only [List.foldl_cons, List.length_cons]
    omega

set_option maxHeartbeats 4000000 in
theorem withAll_any (w₀ : World) (a : Option Addr) (L : List K2) (n c : Nat) (la : Option Addr) (ls : List K2) (ln lc : Nat) (w : World) (hn : L.length = n) (hm : n ≤ 8000000) (hl : ls.length = ln) (hlm : ln ≤ 1048576) (hr : Rs kyE 2 w₀ la ls) (g : Below w₀.heap.size w₀ w) (ho : w.ownsRow w₀.heap.size 97 2 (.slice a n c) L.length (flat kyE L)) :
    Calls Tryz.prog 89 #[.slice a n c, .slice la ln lc] w fun e w' => ∃ a' c', e = .returned (.slice a' (ls.foldl withL L).length c') ∧ Below w₀.heap.size w₀ w' ∧ w'.ownsRow w₀.heap.size 97 2 (.slice a' (ls.foldl withL L).length c') (ls.foldl withL L).length (flat kyE (ls.foldl withL L)) ∧ Kp w w' (Value.slice a n c).ownBlock ∧ Nx w (Value.slice a n c).ownBlock (Value.slice a' (ls.foldl withL L).length c').ownBlock := by
  have HN : Hid (L.length = n) := hn
  have HLn : Hid (ls.length = ln) := hl
  have HR : Hid (Rs kyE 2 w₀ la ls) := hr
  have ho : w.ownsRow w₀.heap.size 97 2 (.slice a n c) ((ls.take 0).foldl withL L).length (flat kyE ((ls.take 0).foldl withL L)) := ho
  clear hn hl hr
  go_enter Tryz.func89, Tryz.ntmps89
  go_upto_region 2 with (fail)
  go_loopw [9, 0] (fun i v wr => ∃ (j : Nat) (a' : Option Addr) (c' m : Nat), j ≤ ln ∧ i = .int .i64 j ∧ v = .slice a' m c' ∧ Hid (((ls.take j).foldl withL L).length = m) ∧ Below w₀.heap.size w₀ wr ∧ wr.ownsRow w₀.heap.size 97 2 (.slice a' m c') ((ls.take j).foldl withL L).length (flat kyE ((ls.take j).foldl withL L)) ∧ Kp w wr (Value.slice a n c).ownBlock ∧ Nx w (Value.slice a n c).ownBlock (Value.slice a' m c').ownBlock) (fun i _ _ => ln - (intOf i).toNat)
  case atStart => exact ⟨0, a, c, n, Nat.zero_le _, rfl, rfl, HN.out, g, ho, Kp.of (Below.refl _ _), .inl rfl⟩
  case round =>
    clear g ho
    obtain ⟨j, a', c', m, hj, rfl, rfl, hmm, g, ho, hkp, hnx⟩ := hrel
    have HKp : Hid (Kp w wr (Value.slice a n c).ownBlock) := hkp
    have HNx : Hid (Nx w (Value.slice a n c).ownBlock (Value.slice a' m c').ownBlock) := hnx
    clear hkp hnx
    by_cases hlt : j < ln
    · have hjn : (j : Int) < (ln : Int) := by omega
      obtain ⟨x, hx⟩ : ∃ x, ls[j]? = some x := ⟨_, List.getElem?_eq_getElem (by rw [HLn.out]; exact hlt)⟩
      obtain ⟨xb, xo, rfl, x0, x1⟩ := (HR.out.below g (Nat.le_refl _)).key hx
      have HF : Hid ((ls.take (j + 1)).foldl withL L = withL ((ls.take j).foldl withL L) x) := by show _ = _; rw [take_snoc hx, List.foldl_append]; rfl
      have hml : m ≤ 10000000 := by
        have h1 := fold_len (ls.take j) L
        have h2 := hmm.out
        rw [List.length_take, HLn.out, HN.out] at h1
        omega
      clear hx
      generalize (ls.take j).foldl withL L = M at hmm ho HF
      obtain ⟨p, q⟩ := x
      dsimp only at x0 x1
      go_upto_region 4 with (fail)
      generalize hY : World.alloc _ _ = Y7
      have g7 : Below wr.heap.size wr Y7 := by rw [← hY]; go_grown
      have z0 : Y7.cell? ⟨wr.heap.size, 0, none⟩ = some (.int .i64 p) := by rw [← hY]; simp [go_sem]
      have z1 : Y7.cell? ⟨wr.heap.size, 1, none⟩ = some (.int .i64 q) := by rw [← hY]; simp [go_sem]
      have ho := ownsRow_below ho g7
      have g := g.trans (g7.mono g.size)
      have HKp7 : Hid (Kp w Y7 (Value.slice a n c).ownBlock) := HKp.out.trans (Kp.of (o := (Value.slice a n c).ownBlock) g7) (.inl rfl)
      clear hY x0 x1 g7
      generalize wr.heap.size = kb at z0 z1 ⊢
      have hcon := with_any w₀ a' M m c' p q Y7 hmm.out hml g ho
      go_wp2_with fail
      refine hcon.mono ?_
      rintro e W1 ⟨a2, c2, rfl, g2, ho2, kp2, nx2⟩
      rw [← HF.out] at ho2 nx2 ⊢
      have HKp2 : Hid (Kp w W1 (Value.slice a n c).ownBlock) := HKp7.out.trans kp2 HNx.out
      have HNx2 : Hid (Nx w (Value.slice a n c).ownBlock (Value.slice a2 ((ls.take (j + 1)).foldl withL L).length c2).ownBlock) := HNx.out.trans HKp7.out.size nx2
      clear hcon z0 z1 ho g hmm kp2 nx2 HKp7 HKp HNx
      obtain ⟨m2, hm2⟩ : ∃ m2, ((ls.take (j + 1)).foldl withL L).length = m2 := ⟨_, rfl⟩
      have HM2 : Hid (((ls.take (j + 1)).foldl withL L).length = m2) := hm2
      have HO : Hid (W1.ownsRow w₀.heap.size 97 2 (.slice a2 m2 c2) ((ls.take (j + 1)).foldl withL L).length (flat kyE ((ls.take (j + 1)).foldl withL L))) := by show World.ownsRow _ _ _ _ _ _ _; rw [← hm2]; exact ho2
      rw [hm2] at HNx2
      rw [hm2]
      clear hm2 ho2 HF
      go_wp2_with fail
      go_roundw
      case rel => exact ⟨j + 1, a2, c2, m2, by omega, by go_num, rfl, HM2, g2, HO.out, HKp2.out, HNx2.out⟩
      case measure => simp [intOf]; omega
    · have e : j = ln := by omega
      subst e
      have HE : Hid (ls.take j = ls) := List.take_of_length_le (by rw [HLn.out]; exact Nat.le_refl _)
      have HO : Hid (wr.ownsRow w₀.heap.size 97 2 (.slice a' m c') ((ls.take j).foldl withL L).length (flat kyE ((ls.take j).foldl withL L))) := ho
      clear ho
      go_wp2_with fail
      refine bodyPost_ret (v := .slice a' m c') (by simp [results, Tryz.results89, go_sem]) rfl ?_
      have h1 := hmm.out
      have h2 := HO.out
      rw [HE.out] at h1 h2
      rw [h1]
      rw [h1] at h2
      exact ⟨a', c', rfl, g, h2, HKp.out, HNx.out⟩

/-- All keys, each once; how many there are with all. -/
def allK (xs : List TxV) : List K2 := xs.foldl (fun L x => x.l.foldl withL L) []
def cntL (xs : List TxV) : Nat := (xs.map fun x => x.l.length).sum
def tgQ (xs : List TxV) : Int := if (allK xs).length < cntL xs then 7 else if 12 < cntU xs then 2 else 0
theorem cntL_step {xs : List TxV} {j : Nat} {x : TxV} (h : xs[j]? = some x) : cntL (xs.take (j + 1)) = cntL (xs.take j) + x.l.length := by
  unfold cntL
  rw [take_snoc h]
  simp
theorem cntL_le {xs : List TxV} {m : Nat} (h : ∀ x ∈ xs, x.l.length ≤ m) : cntL xs ≤ xs.length * m := by
  induction xs with
  | nil => simp [cntL]
  | cons a l ih =>
    have h1 := ih (fun y hy => h y (by simp [hy]))
    have h2 := h a (by simp)
    unfold cntL at h1 ⊢
    simp only [List.map_cons, List.sum_cons, List.length_cons]
    rw [Nat.succ_mul]
    omega
theorem allK_step {xs : List TxV} {j : Nat} {x : TxV} (h : xs[j]? = some x) : allK (xs.take (j + 1)) = x.l.foldl withL (allK (xs.take j)) := by
  unfold allK
  rw [take_snoc h, List.foldl_append]
  rfl
theorem allK_len : ∀ (xs : List TxV) (L : List K2), (xs.foldl (fun L x => x.l.foldl withL L) L).length ≤ L.length + cntL xs
  | [], L => by simp
  | x :: xs, L => by
    have h1 := allK_len xs (x.l.foldl withL L)
    have h2 := fold_len x.l L
    unfold cntL at h1 ⊢
    simp only [List.foldl_cons, List.map_cons, List.sum_cons]
    omega

set_option maxHeartbeats 8000000 in
theorem togetherFault_any (a : Option Addr) (xs : List TxV) (n c : Nat) (w : World) (hn : xs.length = n) (hm : n ≤ 4) (hs : ∀ x ∈ xs, TxOk 1048576 x) (hr : TxRd w a xs) :
    Calls Tryz.prog 56 #[.slice a n c] w fun e w' => e = .returned (.int .i64 (tgQ xs)) ∧ Below w.heap.size w w' := by
  have HN : Hid (xs.length = n) := hn
  have HR : Hid (TxRd w a xs) := hr
  have HS : Hid (∀ x ∈ xs, TxOk 1048576 x) := hs
  have HTb : Hid (∀ V, Below w.heap.size w V → Calls Tryz.prog 90 #[.slice a n c] V fun e w' => e = .returned (.int .i64 (cntU xs)) ∧ Below V.heap.size V w') := fun V hV => turnedBy_any a xs n c V hn hm hs (hr.below hV (Nat.le_refl _))
  obtain ⟨Q, hQ⟩ : ∃ Q, tgQ xs = Q := ⟨_, rfl⟩
  have HQ : Hid ((if (allK xs).length < cntL xs then 7 else if 12 < cntU xs then 2 else 0) = Q) := hQ
  rw [hQ]
  have hcb : ∀ j, cntL (xs.take j) ≤ 4 * 1048576 := fun j => by
    have h1 := cntL_le (xs := xs.take j) (m := 1048576) (fun y hy => (hs y (List.mem_of_mem_take hy)).2.2.2)
    have h2 : (xs.take j).length ≤ 4 := by rw [List.length_take]; omega
    exact Nat.le_trans h1 (Nat.mul_le_mul_right 1048576 h2)
  have HCb : Hid (∀ j, cntL (xs.take j) ≤ 4194304 ∧ (allK (xs.take j)).length ≤ 4194304) := fun j => ⟨hcb j, Nat.le_trans (by have := allK_len (xs.take j) []; unfold allK; simpa using this) (hcb j)⟩
  clear hn hr hs hQ hcb
  go_enter Tryz.func56, Tryz.ntmps56
  go_upto_region 4 with (fail)
  go_loopw [9, 3, 4] (fun i v s wr => ∃ (j : Nat) (a' : Option Addr) (c' m : Nat), j ≤ n ∧ i = .int .i64 j ∧ v = .slice a' m c' ∧ s = .int .i64 (cntL (xs.take j)) ∧ Hid ((allK (xs.take j)).length = m) ∧ Below w.heap.size w wr ∧ wr.ownsRow w.heap.size 97 2 (.slice a' m c') (allK (xs.take j)).length (flat kyE (allK (xs.take j)))) (fun i _ _ _ => n - (intOf i).toNat)
  case atStart => exact ⟨0, none, 0, 0, Nat.zero_le _, rfl, rfl, rfl, rfl, Below.refl _ _, ownsRow_nil _ _ _ _⟩
  case round =>
    obtain ⟨j, a', c', m, hj, rfl, rfl, rfl, hmm, g, ho⟩ := hrel
    obtain ⟨hcl, hal⟩ := HCb.out j
    by_cases hlt : j < n
    · have hjn : (j : Int) < (n : Int) := by omega
      obtain ⟨x, hx⟩ := at_ltT (xs := xs) (i := j) (by rw [HN.out]; exact hlt)
      obtain ⟨b, off, ua, ma, la, uc, mc, lc, e, Z0⟩ := HR.out.at hx
      obtain rfl := e
      have Z := Z0.below g
      have HRl : Hid (Rs kyE 2 w la x.l) := Z0.l
      have hok := (HS.out x (List.mem_of_getElem? hx)).2.2.2
      have HC : Hid (cntL (xs.take (j + 1)) = cntL (xs.take j) + x.l.length) := cntL_step hx
      have HK : Hid (allK (xs.take (j + 1)) = x.l.foldl withL (allK (xs.take j))) := allK_step hx
      clear hx Z0
      have hmb : m ≤ 8000000 := by have := hmm.out; omega
      generalize allK (xs.take j) = M at hmm ho HK hal
      generalize cntL (xs.take j) = cl at HC hcl ⊢
      obtain ⟨id, us, ms, ls⟩ := x
      obtain ⟨c0, c1, c2, c3, -, -, -⟩ := Z
      dsimp only at c0 c1 c2 c3 HC HK HRl hok
      have hcon := fun V hV hO => withAll_any w a' M m c' la ls ls.length lc V hmm.out hmb rfl hok HRl.out (hV : Below w.heap.size w V) hO
      generalize us.length = un at c1
      generalize ms.length = mn at c2
      generalize ls.length = ln at c3 hcon HC hok
      go_upto_region 6 with (fail)
      generalize hY : World.alloc _ _ = Y7
      have g7 : Below wr.heap.size wr Y7 := by rw [← hY]; go_grown
      have Z : T4 Y7 wr.heap.size id ua un uc ma mn mc la ln lc := by rw [← hY]; exact ⟨by simp [go_sem], by simp [go_sem], by simp [go_sem], by simp [go_sem]⟩
      have ho0 := ho
      have ho := ownsRow_below ho g7
      have hws : w.heap.size ≤ wr.heap.size := g.size
      have g := g.trans (g7.mono g.size)
      clear hY c0 c1 c2 c3 g7
      have hlz := Z.lt
      have hne : some wr.heap.size ≠ (Value.slice a' m c').ownBlock := fun e => by have := (ho0.lt _ e.symm).2; omega
      generalize wr.heap.size = tb at Z hlz hws hne ⊢
      have hcon := hcon Y7 g ho
      have HZ : Hid (∀ V, Kp Y7 V (Value.slice a' m c').ownBlock → V.cell? ⟨tb, 3, none⟩ = some (.slice la ln lc)) := fun V hV => (World.cell?_of_block (hV.block tb hlz hne)).trans Z.c3
      obtain ⟨z0, z1, z2, z3⟩ := Z
      go_wp2_with fail
      refine hcon.mono ?_
      rintro e W1 ⟨a2, c2, rfl, g2, ho2, kp2, nx2⟩
      have q3 := HZ.out W1 kp2
      rw [← HK.out] at ho2 ⊢
      clear hcon z0 z1 z2 z3 ho g HZ kp2 nx2 hne hlz ho0 hmm
      obtain ⟨m2, hm2⟩ : ∃ m2, (allK (xs.take (j + 1))).length = m2 := ⟨_, rfl⟩
      have HM2 : Hid ((allK (xs.take (j + 1))).length = m2) := hm2
      have HO : Hid (W1.ownsRow w.heap.size 97 2 (.slice a2 m2 c2) (allK (xs.take (j + 1))).length (flat kyE (allK (xs.take (j + 1))))) := by show World.ownsRow _ _ _ _ _ _ _; rw [← hm2]; exact ho2
      rw [hm2]
      clear hm2 ho2 HK
      go_wp2_with fail
      go_roundw
      case rel => exact ⟨j + 1, a2, c2, m2, by omega, by go_num, rfl, by rw [HC.out]; go_num, HM2, g2, HO.out⟩
      case measure => simp [intOf]; omega
    · have e : j = n := by omega
      subst e
      have HE : Hid (xs.take j = xs) := List.take_of_length_le (by rw [HN.out]; exact Nat.le_refl _)
      rw [HE.out] at hmm hcl hal ⊢
      clear ho
      have HQ2 : Hid ((if m < cntL xs then 7 else if 12 < cntU xs then 2 else 0) = Q) := by have h := HQ.out; rw [hmm.out] at h; exact h
      have htb := HTb.out wr g
      clear HQ hmm hal
      generalize cntL xs = cl at HQ2 hcl ⊢
      by_cases h7 : m < cl
      · have d7 : (m : Int) < (cl : Int) := by omega
        have HX : Hid (Q = 7) := by show _ = _; rw [← HQ2.out, if_pos h7]
        clear HQ2 htb
        go_wp2_with fail
        go_ret
        exact ⟨by rw [HX.out]; rfl, g⟩
      have d7 : ¬ (m : Int) < (cl : Int) := by omega
      have HQ3 : Hid ((if 12 < cntU xs then 2 else 0) = Q) := by have h := HQ2.out; rw [if_neg h7] at h; exact h
      clear HQ2
      generalize cntU xs = ct at htb HQ3
      go_wp2_with fail
      refine htb.mono ?_
      rintro e w2 ⟨rfl, g2⟩
      have g := g.trans (g2.mono g.size)
      clear htb g2
      by_cases h12 : 12 < ct
      · have d12 : (12 : Int) < (ct : Int) := by omega
        have HX : Hid (Q = 2) := by show _ = _; rw [← HQ3.out, if_pos h12]
        clear HQ3
        go_wp2_with fail
        go_ret
        exact ⟨by rw [HX.out]; rfl, g⟩
      · have d12 : ¬ (12 : Int) < (ct : Int) := by omega
        have HX : Hid (Q = 0) := by show _ = _; rw [← HQ3.out, if_neg h12]
        clear HQ3
        go_wp2_with fail
        go_ret
        exact ⟨by rw [HX.out]; rfl, g⟩

end Go.Proofs.YtpjlpnaamkbicaaGreatDoor
