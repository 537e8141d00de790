/-
  The program's rowsByKey; the model's l6At.
-/
import Derived.Test.YtcadkclppejdgaaSMks
import Derived.Shelf.Pu.Clone
import Derived.Ground.MpProg
import Derived.Test.YtcadkclppejdgaaProg

namespace Go.Proofs.Ytcadkclppejdgaa
open Go.RowKit Go.Maps
set_option linter.unusedVariables false

def rwK (r : Rw) : (Int × Int) × Value := ((r.t, r.k), rwA r)
theorem RowC.turn {w w' : World} {b o : Nat} {r : Rw} (h : RowC w b o r) {mb : Nat} (ht : w.mapTurned w' mb) (hne : b ≠ mb) : RowC w' b o r :=
  ⟨cell_turn ht h.c0, cell_turn ht h.c1, cell_turn ht h.c2, cell_turn ht h.c3⟩

set_option maxRecDepth 20000 in
set_option maxHeartbeats 4000000 in
theorem rowsByKey_any (a : Option Addr) (rs : List Rw) (n c : Nat) (w : World) (hn : rs.length = n) (hm : n ≤ 100000) (hk : ∀ r ∈ rs, Kw r.t r.k) (hr : Rs rwE 4 w a rs) :
    Calls Try.prog 67 #[.slice a n c] w fun e w' => ∃ b sz, e = .returned (.map (some b)) ∧ w.heap.size ≤ b ∧ Below w.heap.size w w' ∧ MapK 73 w' b (rs.map rwK) sz := by
  have hmm := @run_makeMap Try.prog
  have HN : Hid (rs.length = n) := hn
  have HK : Hid (∀ r ∈ rs, Kw r.t r.k) := hk
  have hk4 : MapK 73 (w.alloc (.map #[] 0)) w.heap.size [] 0 := ⟨MapF.made _ _, Nat.le_refl _, by simp⟩
  have gA : Below w.heap.size w (w.alloc (.map #[] 0)) := by go_grown
  have hr := hr.below gA (Nat.le_refl _)
  clear hn hk
  go_enter Try.func67, Try.ntmps67
  go_wp2_with fail
  generalize w.alloc (.map #[] 0) = X at hk4 gA hr ⊢
  obtain ⟨vb, hvb0⟩ : ∃ vb, vb = w.heap.size := ⟨_, rfl⟩
  have hvb : w.heap.size ≤ vb := by omega
  rw [← hvb0] at hk4
  have HVB : Hid (vb = w.heap.size) := hvb0
  rw [show w.heap.size = vb from hvb0.symm]
  clear hvb0
  go_loopw [9] (fun i wr => ∃ (j sz : Nat), j ≤ n ∧ i = .int .i64 j ∧ Below w.heap.size w wr ∧ Rs rwE 4 wr a rs ∧ MapK 73 wr vb ((rs.take j).map rwK) sz) (fun i _ => n - (intOf i).toNat)
  case atStart => exact ⟨0, 0, Nat.zero_le _, rfl, gA, hr, hk4⟩
  case round =>
    clear hr hk4 gA
    obtain ⟨j, sz, hj, rfl, g, hr, hK1⟩ := hrel
    by_cases hlt : j < n
    · obtain ⟨x, hx⟩ := at_lt (rs := rs) (i := j) (by rw [HN.out]; exact hlt)
      obtain ⟨b, off, rfl, X'⟩ := hr.row hx
      have hjn : (j : Int) < (n : Int) := by omega
      have HT : Hid ((rs.take (j + 1)).map rwK = (rs.take j).map rwK ++ [rwK x]) := by show _ = _; rw [take_snoc hx, List.map_append]; rfl
      have HL2 : Hid (((rs.take j).map rwK).length = j) := by show _ = _; rw [List.length_map, List.length_take, HN.out]; omega
      have hKw : Hid (Kw x.t x.k) := HK.out x (List.mem_of_getElem? hx)
      clear hx
      obtain ⟨xt, xk, xv, xs0⟩ := x
      dsimp only at hKw
      obtain ⟨x0, x1, x2, x3⟩ := X'
      dsimp only at x0 x1 x2 x3
      have hgs := g.size
      have hcb : wr.heap.size ≠ vb := by have := hK1.1.lt; omega
      go_upto_region 5 with (fail)
      generalize hY : World.alloc _ _ = Y
      have gY : Below wr.heap.size wr Y := by rw [← hY]; go_grown
      have C : RowC Y wr.heap.size 0 ⟨xt, xk, xv, xs0⟩ := by rw [← hY]; exact ⟨by simp [go_sem], by simp [go_sem], by simp [go_sem], by simp [go_sem]⟩
      have hK1 := hK1.below gY
      have hr := hr.below gY (Nat.le_refl _)
      have g := g.trans (gY.mono g.size)
      clear hY gY x0 x1 x2 x3
      generalize wr.heap.size = cb at C hcb ⊢
      refine wp_region_held_drew (S := fun V => RowC V cb 0 ⟨xt, xk, xv, xs0⟩ ∧ Below w.heap.size w V) (by kernel_rfl) ⟨C.below (Below.refl _ _).drew C.lt, g.drew⟩ (fun hHeld => ?_)
      have hK1 := hK1.below (Below.refl _ _).drew
      have hr := hr.below (Below.refl _ _).drew (Nat.le_refl _)
      generalize Y.drew = D at hHeld hK1 hr ⊢
      clear C g
      refine wpAnyH_take (i := 0) (v := ?v1) rfl (by kernel_rfl) (by kernel_rfl) (by kernel_rfl) (fun _ _ _ h => h) (Or.inl ⟨by kernel_rfl, ?h1⟩) hHeld ?_
      case h1 => intro u hSw; obtain ⟨q0, q1, q2, q3⟩ := hSw.1; dsimp only at q0 q1 q2 q3; clear hSw; go_simp; try with_reducible rfl
      try simp only [List.getElem_toArray]
      try simp only [List.getElem_cons_succ]
      try simp only [List.getElem_cons_zero]
      try simp only [Act.put]
      try simp only [List.setIfInBounds_toArray]
      try simp only [List.set]
      refine wpAnyH_take (i := 1) (v := ?v2) rfl (by kernel_rfl) (by kernel_rfl) (by kernel_rfl) (fun _ _ _ h => h) (Or.inl ⟨by kernel_rfl, ?h2⟩) hHeld ?_
      case h2 => intro u hSw; obtain ⟨q0, q1, q2, q3⟩ := hSw.1; dsimp only at q0 q1 q2 q3; clear hSw; go_simp; try with_reducible rfl
      try simp only [List.getElem_toArray]
      try simp only [List.getElem_cons_succ]
      try simp only [List.getElem_cons_zero]
      try simp only [Act.put]
      try simp only [List.setIfInBounds_toArray]
      try simp only [List.set]
      refine wpAnyH_take (i := 3) (v := ?v3) rfl (by kernel_rfl) (by kernel_rfl) (by kernel_rfl) (fun _ _ _ h => h) (Or.inl ⟨by kernel_rfl, ?h3⟩) hHeld ?_
      case h3 => intro u hSw; obtain ⟨q0, q1, q2, q3⟩ := hSw.1; dsimp only at q0 q1 q2 q3; clear hSw; go_simp; try with_reducible rfl
      try simp only [List.getElem_toArray]
      try simp only [List.getElem_cons_succ]
      try simp only [List.getElem_cons_zero]
      try simp only [Act.put]
      try simp only [List.setIfInBounds_toArray]
      try simp only [List.set]
      refine wpAnyH_ready (rs := [2]) (by kernel_rfl) (by simp) ?_
      refine AllReadyH.cons rfl (fun K hK => ?_) AllReadyH.nil
      go_simp
      go_wp2_with (go_at_call 80; refine (keyOf_any _ _ _ _ _).mono ?_; rintro e W3 ⟨rfl, gg⟩)
      refine hK.out _ _ (⟨hHeld.1.below gg hHeld.1.lt, hHeld.2.trans (gg.mono hHeld.2.size)⟩) (fun hHeld => ?_)
      clear hK K
      have hK1 := hK1.below gg
      have hr := hr.below gg (Nat.le_refl _)
      clear gg
      try simp only [Act.put]
      try simp only [List.setIfInBounds_toArray]
      try simp only [List.set]
      obtain ⟨W4, e4, m4, t4⟩ := hK1.1.store keyT73 Try.underlying101 hKw.out (.agg #[.int .i64 xt, .int .i64 xk, .int .i64 xv, .string xs0]) (by have := hK1.2.1; rw [HL2.out] at this; omega)
      simp only [kv] at e4
      have hK2 := hK1.add m4
      have hlt1 := hK1.1.lt
      have gT := turned_below t4 hvb hlt1
      refine wpAnyH_ready (rs := [4]) (by kernel_rfl) (by simp) ?_
      refine AllReadyH.cons rfl (fun K hK => ?_) AllReadyH.nil
      go_simp
      refine hK.out _ _ ⟨hHeld.1.turn t4 hcb, hHeld.2.trans gT⟩ (fun hHeld => ?_)
      clear hK K e4
      try simp only [Act.put]
      try simp only [List.setIfInBounds_toArray]
      try simp only [List.set]
      refine wpAnyH_done (by kernel_rfl) ?_ _
      have g2 := hHeld.2
      have hr2 := hr.turn t4
      have hK2 : MapK 73 W4 vb ((rs.take (j + 1)).map rwK) (nSz (kvF ((rs.take j).map rwK) xt xk) sz) := by rw [HT.out]; exact hK2
      clear hHeld
      go_wp2_with fail
      go_roundw
      case rel => exact ⟨j + 1, _, by omega, by go_num, g2, hr2, hK2⟩
      case measure => simp [intOf]; omega
    · have e : j = n := by omega
      subst e
      rw [List.take_of_length_le (by rw [HN.out]; exact Nat.le_refl _)] at hK1
      go_wp2_with fail
      go_ret
      exact ⟨vb, sz, rfl, hvb, g, hK1⟩

/-- Where the row of that key is; none: -1. -/
def AtP (rs : List Rw) (t k : Int) (r : Int) : Prop := (r = -1 ∧ ∀ x ∈ rs, ¬ (x.t = t ∧ x.k = k)) ∨ ∃ (i : Nat) (x : Rw), r = i ∧ rs[i]? = some x ∧ x.t = t ∧ x.k = k

set_option maxHeartbeats 1000000 in
theorem l6At_any (a : Option Addr) (rs : List Rw) (n c : Nat) (t k : Int) (w : World) (hn : rs.length = n) (hm : n ≤ 100000) (hr : Rs rwE 4 w a rs) :
    Calls Try.prog 88 #[.slice a n c, .int .i64 t, .int .i64 k] w fun e w' => ∃ r : Int, e = .returned (.int .i64 r) ∧ AtP rs t k r ∧ w' = w := by
  have HN : Hid (rs.length = n) := hn
  have HR : Hid (Rs rwE 4 w a rs) := hr
  clear hn hr
  go_enter Try.func88, Try.ntmps88
  go_wp2_with fail
  go_loopw [7] (fun i wr => ∃ j : Nat, j ≤ n ∧ i = .int .i64 j ∧ Hid (∀ x ∈ rs.take j, ¬ (x.t = t ∧ x.k = k)) ∧ wr = w) (fun i _ => n - (intOf i).toNat)
  case atStart => exact ⟨0, Nat.zero_le _, rfl, by intro x hx; simp at hx, rfl⟩
  case round =>
    obtain ⟨j, hj, rfl, hf, rfl⟩ := hrel
    by_cases hlt : j < n
    · obtain ⟨x, hx⟩ := at_lt (rs := rs) (i := j) (by rw [HN.out]; exact hlt)
      obtain ⟨b, off, rfl, X'⟩ := HR.out.row hx
      have hjn : (j : Int) < (n : Int) := by omega
      have HX : Hid (rs[j]? = some x) := hx
      have HF : Hid (¬ (x.t = t ∧ x.k = k) → ∀ y ∈ rs.take (j + 1), ¬ (y.t = t ∧ y.k = k)) := fun hne y hy => by
        rw [take_snoc hx] at hy
        rcases List.mem_append.1 hy with h | h
        · exact hf.out y h
        · simp at h; subst h; exact hne
      clear hx hf
      obtain ⟨xt, xk, xv, xs0⟩ := x
      obtain ⟨x0, x1, x2, x3⟩ := X'
      dsimp only at x0 x1 x2 x3
      by_cases h1 : xt = t
      · subst h1
        by_cases h2 : xk = k
        · subst h2
          go_wp2_with fail
          go_ret
          exact ⟨j, rfl, .inr ⟨j, _, rfl, HX.out, rfl, rfl⟩, rfl⟩
        · have HF2 : Hid (∀ y ∈ rs.take (j + 1), ¬ (y.t = xt ∧ y.k = k)) := HF.out (fun h => h2 h.2)
          have d2 : (xk == k) = false := by simpa using h2
          go_wp2_with fail
          go_roundw
          case rel => exact ⟨j + 1, by omega, by go_num, HF2, by simp⟩
          case measure => simp [intOf]; omega
      · have HF2 : Hid (∀ y ∈ rs.take (j + 1), ¬ (y.t = t ∧ y.k = k)) := HF.out (fun h => h1 h.1)
        have d1 : (xt == t) = false := by simpa using h1
        go_wp2_with fail
        go_roundw
        case rel => exact ⟨j + 1, by omega, by go_num, HF2, by simp⟩
        case measure => simp [intOf]; omega
    · have HF2 : Hid (∀ x ∈ rs, ¬ (x.t = t ∧ x.k = k)) := by
        have := hf.out
        rw [List.take_of_length_le (by rw [HN.out]; omega)] at this
        exact this
      have hjn : ¬ (j : Int) < (n : Int) := by omega
      clear hf
      go_wp2_with fail
      go_ret
      exact ⟨-1, rfl, .inl ⟨rfl, HF2.out⟩, rfl⟩

end Go.Proofs.Ytcadkclppejdgaa

/-
  DERIVED: THE SHELF's CONTRACTS AT THIS DUMP, IN PLAIN WORDS (tools/lay-plain.mjs out of 'YtcadkclppejdgaaShg.lean', which tools/lay-shelf.mjs wrote): THE SAME DECLARATIONS UNDER THE SAME NAMES: 'import', 'namespace', 'open', 'def', 'theorem' AND NOTHING ELSE: no command of the shelf's: FOR A HAND-IN. Each laying: the table of numbers ('.._ren') and one theorem, a field a fact of the dump's own or the kernel's comparison; each contract: ONE APPLICATION.
-/
namespace Go.Proofs
open Go.Shelf
def Try.cloneL_ren : Go.Shelf.Ren := ⟨fun | 25 => 115 | n => n, fun | 9 => 9 | 3 => 3 | 4 => 4 | 37 => 63 | 0 => 0 | 47 => 182 | 5 => 5 | n => n, fun | n => n⟩
theorem Try.cloneL : Go.Proofs.LaysPu.n25 Try.prog Try.cloneL_ren := {
  mixed := by kernel_rfl
  f25 := Try.func115.trans (congrArg some (by kernel_rfl))
  t0 := Try.underlying0
  a0 := Try.isAgg0
  z0 := Try.sizeOf0
  v0 := Try.zeroValue0
  i0 := by kernel_rfl
  t3 := Try.underlying3
  a3 := Try.isAgg3
  z3 := Try.sizeOf3
  v3 := Try.zeroValue3
  i3 := by kernel_rfl
  t4 := Try.underlying4
  a4 := Try.isAgg4
  z4 := Try.sizeOf4
  v4 := Try.zeroValue4
  i4 := by kernel_rfl
  t5 := Try.underlying5
  a5 := Try.isAgg5
  z5 := Try.sizeOf5
  v5 := Try.zeroValue5
  i5 := by kernel_rfl
  t9 := Try.underlying9
  a9 := Try.isAgg9
  z9 := Try.sizeOf9
  v9 := Try.zeroValue9
  i9 := by kernel_rfl
  t37 := Try.underlying63
  a37 := Try.isAgg63
  z37 := Try.sizeOf63
  v37 := Try.zeroValue63
  i37 := by kernel_rfl
  t47 := Try.underlying182
  a47 := Try.isAgg182
  z47 := Try.sizeOf182
  v47 := Try.zeroValue182
  i47 := by kernel_rfl }
end Go.Proofs

/-
  A row with a text of its own: strings.Clone, ownRow. A change: its ten cells.
-/
namespace Go.Proofs.Ytcadkclppejdgaa
open Go.RowKit
set_option linter.unusedVariables false

set_option maxHeartbeats 400000 in
theorem clone_any (s : ByteArray) (w : World) (hs : s.size ≤ 1048576) : Calls Try.prog 97 #[.string s] w fun e w' => e = .returned (.string s) ∧ Below w.heap.size w w' := by
  have hcon := AnyPu.stringslite_Clone Try.cloneL s w (by omega)
  change Calls Try.prog 115 _ _ _ at hcon
  go_enter Try.func97, Try.ntmps97
  go_wp2_with (go_at_call 115; refine hcon.mono ?_; rintro e w' ⟨rfl, g⟩)
  go_ret
  exact ⟨rfl, g⟩

set_option maxHeartbeats 1000000 in
theorem ownRow_any (t k v : Int) (s : ByteArray) (w : World) (hs : s.size ≤ 1048576) : Calls Try.prog 70 #[.agg #[.int .i64 t, .int .i64 k, .int .i64 v, .string s]] w fun e w' => e = .returned (.agg #[.int .i64 t, .int .i64 k, .int .i64 v, .string s]) ∧ Below w.heap.size w w' := by
  have hcon := fun W => clone_any s W hs
  have HC : Hid (∀ W, Calls Try.prog 97 #[.string s] W fun e w' => e = .returned (.string s) ∧ Below W.heap.size W w') := hcon
  clear hcon
  go_enter Try.func70, Try.ntmps70
  go_upto_region 1 with (fail)
  generalize hY : World.alloc _ _ = Y
  have gY : Below w.heap.size w Y := by rw [← hY]; go_grown
  have C : RowC Y w.heap.size 0 ⟨t, k, v, s⟩ := by rw [← hY]; exact ⟨by simp [go_sem], by simp [go_sem], by simp [go_sem], by simp [go_sem]⟩
  have f3 : Y.frozen? ⟨w.heap.size, 3, none⟩ = false := by rw [← hY]; simp [go_sem]
  have Z : RowC Y (w.heap.size + 1) 0 ⟨0, 0, 0, ⟨#[]⟩⟩ := by rw [← hY]; exact ⟨by simp [go_sem], by simp [go_sem], by simp [go_sem], by simp [go_sem]⟩
  have z0 : Y.frozen? ⟨w.heap.size + 1, 0, none⟩ = false := by rw [← hY]; simp [go_sem]
  have z1 : Y.frozen? ⟨w.heap.size + 1, 1, none⟩ = false := by rw [← hY]; simp [go_sem]
  have z2 : Y.frozen? ⟨w.heap.size + 1, 2, none⟩ = false := by rw [← hY]; simp [go_sem]
  have z3 : Y.frozen? ⟨w.heap.size + 1, 3, none⟩ = false := by rw [← hY]; simp [go_sem]
  clear hY
  have hlC := C.lt
  have hlZ := Z.lt
  have hne : w.heap.size + 1 ≠ w.heap.size := by omega
  have hge : w.heap.size ≤ w.heap.size + 1 := by omega
  obtain ⟨b1, hb1⟩ : ∃ b1, b1 = w.heap.size + 1 := ⟨_, rfl⟩
  rw [← hb1] at Z z0 z1 z2 z3 hlZ hne hge ⊢
  have gsz := Nat.le_refl w.heap.size
  have hb0 : w.heap.size ≤ w.heap.size := Nat.le_refl _
  clear hb1
  obtain ⟨b0, hb0'⟩ : ∃ b0, b0 = w.heap.size := ⟨_, rfl⟩
  have hB0 : w.heap.size ≤ b0 := by omega
  have hB1 : w.heap.size ≤ b1 := by omega
  have hnn : b1 ≠ b0 := by omega
  rw [← hb0'] at C f3 hlC ⊢
  clear hb0' hne hge gsz hb0
  obtain ⟨y0, y1, y2, y3⟩ := C
  dsimp only at y0 y1 y2 y3
  go_wp2_with fail
  refine (HC.out _).mono ?_
  rintro e w' ⟨rfl, g⟩
  have C : RowC w' b0 0 ⟨t, k, v, s⟩ := RowC.below (w := Y) ⟨y0, y1, y2, y3⟩ g hlC
  have Z := Z.below g hlZ
  have f3 := (g.frozen (p := ⟨b0, 3, none⟩) hlC).trans f3
  have z0 := (g.frozen (p := ⟨b1, 0, none⟩) hlZ).trans z0
  have z1 := (g.frozen (p := ⟨b1, 1, none⟩) hlZ).trans z1
  have z2 := (g.frozen (p := ⟨b1, 2, none⟩) hlZ).trans z2
  have z3 := (g.frozen (p := ⟨b1, 3, none⟩) hlZ).trans z3
  have gg := gY.trans (g.mono gY.size)
  clear y0 y1 y2 y3 g gY hlC hlZ
  obtain ⟨y0, y1, y2, y3⟩ := C
  obtain ⟨x0, x1, x2, x3⟩ := Z
  dsimp only at y0 y1 y2 y3 x0 x1 x2 x3
  go_wp2_with fail
  refine bodyPost_ret (v := .agg #[.int .i64 t, .int .i64 k, .int .i64 v, .string s]) (by simp [results, Try.results70, go_sem, *]) rfl ?_
  exact ⟨rfl, by go_grown⟩

end Go.Proofs.Ytcadkclppejdgaa

/-
  risingKeys of the maps of rows and of changes.
-/
namespace Go.Proofs.Ytcadkclppejdgaa
open Go.RowKit Go.Sort Go.Shelf
set_option linter.unusedVariables false

set_option maxHeartbeats 400000 in
theorem keysR_box (b : Nat) (w : World) : Calls Try.prog 96 #[.map (some b)] w fun e w' => e = .returned (.func (.func 114) #[] #[.pointer (some ⟨w.heap.size, 0, none⟩)]) ∧ Below w.heap.size w w' ∧ w'.cell? ⟨w.heap.size, 0, none⟩ = some (.map (some b)) := by
  go_enter Try.func96, Try.ntmps96
  go_wp2_with fail
  go_ret
  exact ⟨rfl, by go_grown, by simp [go_sem]⟩

set_option maxHeartbeats 1000000 in
theorem risingR_any (b sz : Nat) (l : List ((Int × Int) × Value)) (w : World) (h : MapK 73 w b l sz) (hl : l.length ≤ 100000) :
    Calls Try.prog 69 #[.map (some b)] w fun e w' => RkPost l w e w' := by
  obtain ⟨D, ho, hs, _, hh⟩ := h.1.has
  have hsz := h.2.1
  have hbl := ho.lt
  have hmem : ∀ x : K2, Maps.has D (k2L x) = true ↔ k2P x ∈ l.map (·.1) := fun x => by
    rw [show k2L x = kl x.x x.y from rfl, hh x.x x.y x.h]
    exact kvF_some l x.x x.y
  clear h hh
  go_enter Try.func69, Try.ntmps69
  go_wp2_with fail
  refine (keysR_box b _).mono ?_
  rintro e w1 ⟨rfl, g1, hc⟩
  have ho1 : w1.ownsMap Try.prog 73 hR b sz D := by
    obtain ⟨es, clock, hb, Ft, hs', hD⟩ := ho
    exact ⟨es, clock, (g1.block b hbl).trans hb, Ft, hs', hD⟩
  have hcl := World.block_lt_of_cell? w1 _ hc
  have hcon := sorted_any 114 #[.pointer (some ⟨w.heap.size, 0, none⟩)] (fun ss => ss.Nodup ∧ ∀ x, x ∈ ss ↔ Maps.has D (k2L x) = true) (Maps.size D) w1 (by omega)
    (enters_of Try.func114 (by kernel_rfl) rfl)
    (fun W hW => keysR_stops Fence.wide 9 trivial rfl (by omega) w.heap.size b sz D W (Nat.lt_of_lt_of_le hcl hW.size) ((hW.cell hcl).trans hc) (by
      obtain ⟨es, clock, hb, Ft, hs', hD⟩ := ho1
      exact ⟨es, clock, (hW.block b (by have := g1.size; omega)).trans hb, Ft, hs', hD⟩))
    (fun ss hss => by
      have h1 := nodup_le (ss.map k2P) (l.map (·.1)) (k2P_nodup hss.1) (fun q hq => by
        obtain ⟨x, hx, rfl⟩ := List.mem_map.1 hq
        exact (hmem x).1 ((hss.2 x).1 hx))
      simp only [List.length_map] at h1
      omega)
  go_wp2_with (go_at_call 82; refine hcon.mono ?_)
  rintro e w2 ⟨a, ys, c, ss, rfl, hss, hp, hr, g2, hi2⟩
  go_wp2_with fail
  go_ret
  have hs1 := g1.size
  refine ⟨a, ys, c, rfl, g1.trans (g2.mono hs1), hi2.mono hs1 (Nat.le_refl _), hr, hp.nodup_iff.2 hss.1, fun x => ?_⟩
  rw [hp.mem_iff, hss.2, hmem]

set_option maxHeartbeats 400000 in
theorem keysC_box (b : Nat) (w : World) : Calls Try.prog 112 #[.map (some b)] w fun e w' => e = .returned (.func (.func 132) #[] #[.pointer (some ⟨w.heap.size, 0, none⟩)]) ∧ Below w.heap.size w w' ∧ w'.cell? ⟨w.heap.size, 0, none⟩ = some (.map (some b)) := by
  go_enter Try.func112, Try.ntmps112
  go_wp2_with fail
  go_ret
  exact ⟨rfl, by go_grown, by simp [go_sem]⟩

set_option maxHeartbeats 1000000 in
theorem risingC_any (b sz : Nat) (l : List ((Int × Int) × Value)) (w : World) (h : MapK 73 w b l sz) (hl : l.length ≤ 100000) :
    Calls Try.prog 91 #[.map (some b)] w fun e w' => RkPost l w e w' := by
  obtain ⟨D, ho, hs, _, hh⟩ := h.1.has
  have hsz := h.2.1
  have hbl := ho.lt
  have hmem : ∀ x : K2, Maps.has D (k2L x) = true ↔ k2P x ∈ l.map (·.1) := fun x => by
    rw [show k2L x = kl x.x x.y from rfl, hh x.x x.y x.h]
    exact kvF_some l x.x x.y
  clear h hh
  go_enter Try.func91, Try.ntmps91
  go_wp2_with fail
  refine (keysC_box b _).mono ?_
  rintro e w1 ⟨rfl, g1, hc⟩
  have ho1 : w1.ownsMap Try.prog 73 hR b sz D := by
    obtain ⟨es, clock, hb, Ft, hs', hD⟩ := ho
    exact ⟨es, clock, (g1.block b hbl).trans hb, Ft, hs', hD⟩
  have hcl := World.block_lt_of_cell? w1 _ hc
  have hcon := sorted_any 132 #[.pointer (some ⟨w.heap.size, 0, none⟩)] (fun ss => ss.Nodup ∧ ∀ x, x ∈ ss ↔ Maps.has D (k2L x) = true) (Maps.size D) w1 (by omega)
    (enters_of Try.func132 (by kernel_rfl) rfl)
    (fun W hW => keysC_stops Fence.wide 9 trivial rfl (by omega) w.heap.size b sz D W (Nat.lt_of_lt_of_le hcl hW.size) ((hW.cell hcl).trans hc) (by
      obtain ⟨es, clock, hb, Ft, hs', hD⟩ := ho1
      exact ⟨es, clock, (hW.block b (by have := g1.size; omega)).trans hb, Ft, hs', hD⟩))
    (fun ss hss => by
      have h1 := nodup_le (ss.map k2P) (l.map (·.1)) (k2P_nodup hss.1) (fun q hq => by
        obtain ⟨x, hx, rfl⟩ := List.mem_map.1 hq
        exact (hmem x).1 ((hss.2 x).1 hx))
      simp only [List.length_map] at h1
      omega)
  go_wp2_with (go_at_call 82; refine hcon.mono ?_)
  rintro e w2 ⟨a, ys, c, ss, rfl, hss, hp, hr, g2, hi2⟩
  go_wp2_with fail
  go_ret
  have hs1 := g1.size
  refine ⟨a, ys, c, rfl, g1.trans (g2.mono hs1), hi2.mono hs1 (Nat.le_refl _), hr, hp.nodup_iff.2 hss.1, fun x => ?_⟩
  rw [hp.mem_iff, hss.2, hmem]

end Go.Proofs.Ytcadkclppejdgaa
