/-
  The law FnDiffs answers true at all codes.
-/
import Derived.Test.YtpoccjlngbdjlaaQDlb
import Derived.Test.YtpoccjlngbdjlaaQDDdb
import Derived.Test.YtpoccjlngbdjlaaQApm
import Derived.Test.YtpoccjlngbdjlaaQSdf
import Derived.Test.YtpoccjlngbdjlaaQIvs
import Derived.Laws.BytesArg

namespace Go.Proofs.Ytpoccjlngbdjlaa
open Go.RowKit Go.Shelf
set_option linter.unusedVariables false

theorem convert_none (w : World) (a : Option Addr) (c : Nat) : (convert 22 9 (.slice a 0 c)).run Try.prog w = .ok (.string (strOfNums [])) w := by
  rw [run_convert_bytes_string w 22 9 5 a 0 c Try.underlying22 Try.underlying5 Try.underlying9]
  cases a with
  | none => simp [Conv.bytesToString]; rfl
  | some p =>
    have hl : (loadCells p 0).run Try.prog w = .ok (([] : List Int).map (Value.int .u8)).toArray w := run_loadCells_list (P := Try.prog) w p [] (fun j v hj => by simp at hj)
    rw [run_bytesToString w p 0 c [] hl]
    rfl

theorem convert_any (w : World) (a : Option Addr) (n c : Nat) (zs : List Int) (hn : zs.length = n) (h : Reads w a zs) : (convert 22 9 (.slice a n c)).run Try.prog w = .ok (.string (strOfNums zs)) w := by
  by_cases h0 : zs = []
  · subst h0
    simp at hn
    subst hn
    exact convert_none w a c
  · rcases h with h | ⟨b, off, rfl, hc⟩
    · exact absurd h h0
    · exact run_convert_bytes_arg w 22 5 Try.underlying22 Try.underlying5 b off n c zs hn (fun i hi => hc i (by omega)) 9 Try.underlying9

set_option maxHeartbeats 400000 in
theorem lwSame_same (a b : Option Addr) (n c d : Nat) (zs : List Int) (w : World) (hn : zs.length = n) (ha : Reads w a zs) (hb : Reads w b zs) :
    Calls Try.prog 16 #[.slice a n c, .slice b n d] w fun e w' => e = .returned (.bool true) ∧ w' = w := by
  have k1 := convert_any w a n c zs hn ha
  have k2 := convert_any w b n d zs hn hb
  generalize strOfNums zs = s at k1 k2
  clear ha hb hn
  go_enter Try.func16, Try.ntmps16
  go_wp2
  go_ret
  exact ⟨rfl, rfl⟩



theorem lwBig_small (a : Option Addr) (n c : Nat) (w : World) (h : n ≤ 1048576) : Calls Try.prog 8 #[.slice a n c] w fun e w' => e = .returned (.bool false) ∧ w' = w := by
  have d : ¬ ((1048576 : Int) < (n : Int)) := by omega
  have d2 : decide ((1048576 : Int) < (n : Int)) = false := by simpa using d
  go_enter Try.func8, Try.ntmps8
  go_wp2
  go_ret
  exact ⟨rfl, rfl⟩

theorem lwBig_big (a : Option Addr) (n c : Nat) (w : World) (h : 1048576 < n) : Calls Try.prog 8 #[.slice a n c] w fun e w' => e = .returned (.bool true) ∧ w' = w := by
  have d : (1048576 : Int) < (n : Int) := by omega
  have d2 : decide ((1048576 : Int) < (n : Int)) = true := by simpa using d
  go_enter Try.func8, Try.ntmps8
  go_wp2
  go_ret
  exact ⟨rfl, rfl⟩


theorem fld28_0 (q : Int) (v : Value) (u : World) : (Instr.field 28 (.agg #[.int .i64 q, v]) 0).run Try.prog u = .ok (.int .i64 q) u := by kernel_rfl
theorem fld31_0 (q : Int) (v : Value) (u : World) : (Instr.field 31 (.agg #[.int .i64 q, v]) 0).run Try.prog u = .ok (.int .i64 q) u := by kernel_rfl
theorem fld31_1 (q : Int) (v : Value) (u : World) : (Instr.field 31 (.agg #[.int .i64 q, v]) 1).run Try.prog u = .ok v u := by kernel_rfl

theorem diff_all {za zb : List Int} (ha : za.length = 64) (hb : zb.length = 64) : ∃ (N : Nat) (P : Nat → Int) (Z Zi : Nat → List Int), dfQ za zb = 0 ∧ dfN za zb = N ∧ spP (dS za zb 0) = P ∧ spZ zb (dS za zb 0) = Z ∧ apQ za N P Z = 0 ∧ apB za N P Z = zb ∧ ivN za N P Z = N ∧ (∀ i, i < N → ivZ za P Z i = Zi i) ∧ apQ zb N P Zi = 0 ∧ apB zb N P Zi = za ∧ rfQ N P Z = 0 ∧ took Z N = dc za zb 64 ∧ N ≤ 64 ∧ (∀ i, i < N → (Z i).length ≤ 64) ∧ (∀ i, i < N → (Zi i).length ≤ 64) := by
  obtain ⟨h1, h2, h3, h4⟩ := diff_dn ha hb
  obtain ⟨h5, h6⟩ := apply_dn ha hb
  obtain ⟨h7, h8⟩ := back_dn ha hb
  have hlen : ∀ zs : List Int, zs.length = 64 → ∀ i, i < (dn za zb 64 0).length → (rZ zs (dn za zb 64 0) i).length ≤ 64 := fun zs hz i hi => by
    rw [rZ_len hz (dn_inc za zb 0) i hi]
    have := (inc_at (dn_inc za zb 0) i hi).2.1
    omega
  exact ⟨_, _, _, _, h1, h2, h3, h4, h5, h6, by unfold ivN; rw [if_pos h5], fun i hi => iv_dn hb i hi, h7, h8, rf_dn hb, took_dn hb, dn_few za zb, hlen zb hb, hlen za ha⟩

theorem dc_le (za zb : List Int) : ∀ j, dc za zb j ≤ j
  | 0 => Nat.le_refl _
  | j + 1 => by
    have := dc_le za zb j
    show dc za zb j + (if byt za j ≠ byt zb j then 1 else 0) ≤ j + 1
    split <;> omega

theorem rdAt {V : World} {g o : Nat} {zs : List Int} (h : Reads V (some ⟨g, o, none⟩) zs) (j : Nat) (hj : j < zs.length) : V.cell? ⟨g, o + j, none⟩ = some (.int .u8 (byt zs j)) := by
  rcases h with h | ⟨b, off, e, hc⟩
  · rw [h] at hj; simp at hj
  · cases e; exact hc j hj
theorem rdAt0 {V : World} {g : Nat} {zs : List Int} (h : Reads V (some ⟨g, 0, none⟩) zs) (j : Nat) (hj : j < zs.length) : V.cell? ⟨g, j, none⟩ = some (.int .u8 (byt zs j)) := by
  have := rdAt h j hj
  rwa [Nat.zero_add] at this

theorem ownS_reads {lo hi : Nat} {w : World} {a : Option Addr} {n : Nat} {P : Nat → Int} {A : Nat → Option Addr} {C : Nat → Nat} {Z : Nat → List Int} {F : Nat → Nat} (h : OwnS lo hi w a n P A C Z F) : RunsRead w a n P A C Z := by
  rcases h with h | ⟨b, rfl, ho⟩
  · exact .inl h
  · exact ho.reads
/-- What the law carries. -/
structure DiS (w : World) (g g2 o : Nat) (ys ys2 : List Int) (bd bx bi bY : Nat) (a' : Option Addr) (n c' : Nat) (P : Nat → Int) (A : Nat → Option Addr) (C : Nat → Nat) (Z : Nat → List Int) (ax : Option Addr) (cx : Nat) (ay : Option Addr) (cy : Nat) (V : World) : Prop where
  g_ : Below w.heap.size w V
  ya : Reads V (some ⟨g, 0, none⟩) ys
  yb : Reads V (some ⟨g2, o, none⟩) ys2
  d1 : V.cell? ⟨bd, 1, none⟩ = some (.slice a' n c')
  rr : RunsRead V a' n P A C Z
  x0 : V.cell? ⟨bx, 0, none⟩ = some (.int .i64 0)
  x1 : V.cell? ⟨bx, 1, none⟩ = some (.slice ax 64 cx)
  rx : Reads V ax ys2
  i0 : V.cell? ⟨bi, 0, none⟩ = some (.int .i64 0)
  y1 : V.cell? ⟨bY, 1, none⟩ = some (.slice ay 64 cy)
  ry : Reads V ay ys
theorem cellUp {V W : World} (hb : Below V.heap.size V W) {p : Addr} {v : Value} (h : V.cell? p = some v) : W.cell? p = some v := (hb.cell (World.block_lt_of_cell? V _ h)).trans h
theorem DiS.up {w : World} {g g2 o : Nat} {ys ys2 : List Int} {bd bx bi bY : Nat} {a' : Option Addr} {n c' : Nat} {P : Nat → Int} {A : Nat → Option Addr} {C : Nat → Nat} {Z : Nat → List Int} {ax : Option Addr} {cx : Nat} {ay : Option Addr} {cy : Nat} {V W : World} (h : DiS w g g2 o ys ys2 bd bx bi bY a' n c' P A C Z ax cx ay cy V) (hb : Below V.heap.size V W) : DiS w g g2 o ys ys2 bd bx bi bY a' n c' P A C Z ax cx ay cy W :=
  ⟨h.g_.trans (hb.mono h.g_.size), h.ya.below hb (Nat.le_refl _), h.yb.below hb (Nat.le_refl _), cellUp hb h.d1, h.rr.below hb (Nat.le_refl _), cellUp hb h.x0, cellUp hb h.x1, h.rx.below hb (Nat.le_refl _), cellUp hb h.i0, cellUp hb h.y1, h.ry.below hb (Nat.le_refl _)⟩
/-- And of the runs that were drawn. -/
structure DiT (w : World) (g g2 o : Nat) (ys ys2 : List Int) (bd bx bi bY : Nat) (a' : Option Addr) (n c' : Nat) (P : Nat → Int) (A : Nat → Option Addr) (C : Nat → Nat) (Z : Nat → List Int) (ax : Option Addr) (cx : Nat) (ay : Option Addr) (cy : Nat) (br : Nat) (q3 : Int) (a3 : Option Addr) (n3 c3 : Nat) (us : List Int) (pv : Option Addr) (ys3 : List Int) (au : Option Addr) (nu : Nat) (Pu : Nat → Int) (Au : Nat → Option Addr) (Cu : Nat → Nat) (Zu : Nat → List Int) (V : World) : Prop where
  s : DiS w g g2 o ys ys2 bd bx bi bY a' n c' P A C Z ax cx ay cy V
  r0 : V.cell? ⟨br, 0, none⟩ = some (.int .i64 q3)
  r1 : V.cell? ⟨br, 1, none⟩ = some (.slice a3 n3 c3)
  r3 : Reads V a3 us
  pv : Reads V pv ys3
  ru : RunsRead V au nu Pu Au Cu Zu
theorem DiT.up {w : World} {g g2 o : Nat} {ys ys2 : List Int} {bd bx bi bY : Nat} {a' : Option Addr} {n c' : Nat} {P : Nat → Int} {A : Nat → Option Addr} {C : Nat → Nat} {Z : Nat → List Int} {ax : Option Addr} {cx : Nat} {ay : Option Addr} {cy : Nat} {br : Nat} {q3 : Int} {a3 : Option Addr} {n3 c3 : Nat} {us : List Int} {pv : Option Addr} {ys3 : List Int} {au : Option Addr} {nu : Nat} {Pu : Nat → Int} {Au : Nat → Option Addr} {Cu : Nat → Nat} {Zu : Nat → List Int} {V W : World} (h : DiT w g g2 o ys ys2 bd bx bi bY a' n c' P A C Z ax cx ay cy br q3 a3 n3 c3 us pv ys3 au nu Pu Au Cu Zu V) (hb : Below V.heap.size V W) : DiT w g g2 o ys ys2 bd bx bi bY a' n c' P A C Z ax cx ay cy br q3 a3 n3 c3 us pv ys3 au nu Pu Au Cu Zu W :=
  ⟨h.s.up hb, cellUp hb h.r0, cellUp hb h.r1, h.r3.below hb (Nat.le_refl _), h.pv.below hb (Nat.le_refl _), h.ru.below hb (Nat.le_refl _)⟩

set_option maxRecDepth 20000 in
set_option maxHeartbeats 4000000 in
theorem lawDiffs_fits (a : Option Addr) (n c : Nat) (xs : List Int) (w : World) (rd : Reads w a xs) (hn : xs.length = n) (hm : n ≤ 1048576) (hz : ∀ z ∈ xs, 0 ≤ z ∧ z ≤ 255) :
    Calls Try.prog 3 #[.slice a n c] w fun e w' => e = .returned (.bool true) ∧ Below w.heap.size w w' := by
  have HD : Hid (∀ W : World, Below w.heap.size w W → Calls Try.prog 14 #[.slice a n c] W fun e w' => ∃ v u, e = .returned (.tuple #[v, u]) ∧ Dr.BtAt W.heap.size w' v ∧ RnAt w' u ∧ Below W.heap.size W w') := fun W gW => drawApplyRuns_any a n c xs W (rd.below gW (Nat.le_refl _)) hn hm hz
  go_enter Try.func3, Try.ntmps3
  go_wp2_with fail
  refine (lwBig_small a n c _ hm).mono ?_
  rintro e w0 ⟨rfl, h0⟩
  rw [h0]
  clear h0 w0
  go_wp2_with fail
  refine (Dr.drawDiffBytes_any a n c xs _ rd hn hm hz).mono ?_
  rintro e w1 ⟨g, dd, ys, g2, o, m, d2, ys2, rfl, hdd, hmd, hTB, g1⟩
  obtain ⟨hy, hy2, l, l2, m2, b1, b2⟩ := hTB
  have ya : Reads w1 (some ⟨g, 0, none⟩) ys := hy.reads
  have yb : Reads w1 (some ⟨g2, o, none⟩) ys2 := hy2.reads
  have HL : Hid (ys.length = 64) := l
  have HL2 : Hid (ys2.length = m) := l2
  clear rd hn hm hz hy hy2
  go_wp2_with fail
  refine (implDiffBytes_any _ ys 64 dd _ ys2 m d2 _ HL.out HL2.out (by omega) (by omega) ya yb b1 b2).mono ?_
  rintro e w2 ⟨a', c', A, C, F, rfl, gg, ho⟩
  have g1 := g1.trans (gg.mono g1.size)
  have ya := ya.below gg (Nat.le_refl _)
  have yb := yb.below gg (Nat.le_refl _)
  clear gg b1 b2
  rcases m2.symm with hm63 | hm64
  · subst hm63
    have HQ : Hid (dfQ ys ys2 = 1 ∧ dfN ys ys2 = 0) := by
      show _ ∧ _
      unfold dfQ dfN
      rw [if_neg (by omega), if_neg (by omega)]
      exact ⟨rfl, rfl⟩
    rw [HQ.out.1, HQ.out.2]
    clear ho l l2 m2
    go_upto_region 5 with (fail)
    generalize hY : World.alloc w2 _ = Y
    have g2' : Below w2.heap.size w2 Y := by rw [← hY]; go_grown
    have t0 : Y.cell? ⟨w2.heap.size, 0, none⟩ = some (.int .i64 1) := by rw [← hY]; simp [go_sem]
    have ya := ya.below g2' (Nat.le_refl _)
    have yb := yb.below g2' (Nat.le_refl _)
    have g1 := g1.trans (g2'.mono g1.size)
    clear hY g2'
    generalize w2.heap.size = bd at t0 ⊢
    go_wp2_with fail
    have gd : Below Y.heap.size Y Y.drew := (Below.refl _ _).drew
    refine wp_region_held_drew (S := fun V => V.cell? ⟨bd, 0, none⟩ = some (.int .i64 1) ∧ Reads V (some ⟨g, 0, none⟩) ys ∧ Reads V (some ⟨g2, o, none⟩) ys2 ∧ Below w.heap.size w V) (by kernel_rfl) ⟨cellUp gd t0, ya.below gd (Nat.le_refl _), yb.below gd (Nat.le_refl _), g1.trans (gd.mono g1.size)⟩ (fun hHeld => ?_)
    clear t0 ya yb g1 gd
    generalize Y.drew = D at hHeld ⊢
    refine wpAnyH_take (i := 0) (v := ?v1) rfl (by kernel_rfl) (by kernel_rfl) (by kernel_rfl) (fun _ _ _ h => h) (Or.inl ⟨by kernel_rfl, ?h1⟩) hHeld ?_
    case h1 => intro u hSw; (try dsimp only at hSw); go_simp; try with_reducible rfl
    try simp only [List.getElem_toArray]
    try simp only [List.getElem_cons_succ]
    try simp only [List.getElem_cons_zero]
    try simp only [Act.put]
    try simp only [List.setIfInBounds_toArray]
    try simp only [List.set]
    refine wpAnyH_take (i := 1) (v := ?v2) rfl (by kernel_rfl) (by kernel_rfl) (by kernel_rfl) (fun _ _ _ h => h) (Or.inl ⟨by kernel_rfl, ?h2⟩) hHeld ?_
    case h2 => intro u hSw; (try dsimp only at hSw); go_simp; try with_reducible rfl
    try simp only [List.getElem_toArray]
    try simp only [List.getElem_cons_succ]
    try simp only [List.getElem_cons_zero]
    try simp only [Act.put]
    try simp only [List.setIfInBounds_toArray]
    try simp only [List.set]
    refine wpAnyH_take (i := 4) (v := ?v3) rfl (by kernel_rfl) (by kernel_rfl) (by kernel_rfl) (fun _ _ _ h => h) (Or.inl ⟨by kernel_rfl, ?h3⟩) hHeld ?_
    case h3 => intro u hSw; (try dsimp only at hSw); go_simp; try with_reducible rfl
    try simp only [List.getElem_toArray]
    try simp only [List.getElem_cons_succ]
    try simp only [List.getElem_cons_zero]
    try simp only [Act.put]
    try simp only [List.setIfInBounds_toArray]
    try simp only [List.set]
    refine wpAnyH_take (i := 5) (v := ?v4) rfl (by kernel_rfl) (by kernel_rfl) (by kernel_rfl) (fun _ _ _ h => h) (Or.inl ⟨by kernel_rfl, ?h4⟩) hHeld ?_
    case h4 => intro u hSw; obtain ⟨t0, _⟩ := hSw; go_simp; try with_reducible rfl
    try simp only [List.getElem_toArray]
    try simp only [List.getElem_cons_succ]
    try simp only [List.getElem_cons_zero]
    try simp only [Act.put]
    try simp only [List.setIfInBounds_toArray]
    try simp only [List.set]
    refine wpAnyH_ready (rs := [2]) (by kernel_rfl) (by simp) ?_
    refine AllReadyH.cons rfl (fun K hK => ?_) AllReadyH.nil
    go_simp
    go_wp2_with (go_at_call 11; refine (specDiffBytes_any _ ys 64 dd _ ys2 63 d2 _ HL.out HL2.out (by omega) (by omega) hHeld.2.1 hHeld.2.2.1).mono ?_; rintro e w' ⟨a9, c9, A9, C9, F9, rfl, hb, -⟩; rw [HQ.out.1, HQ.out.2])
    refine hK.out _ _ (⟨cellUp hb hHeld.1, hHeld.2.1.below hb (Nat.le_refl _), hHeld.2.2.1.below hb (Nat.le_refl _), hHeld.2.2.2.trans (hb.mono hHeld.2.2.2.size)⟩) (fun hHeld => ?_)
    clear hK K
    clear hb
    try simp only [Act.put]
    try simp only [List.setIfInBounds_toArray]
    try simp only [List.set]
    refine wpAnyH_take (i := 3) (v := ?v5) rfl (by kernel_rfl) (by kernel_rfl) (by kernel_rfl) (fun _ _ _ h => h) (Or.inl ⟨by kernel_rfl, ?h5⟩) hHeld ?_
    case h5 => intro u hSw; have hfd := fld28_0 1 (.slice a9 0 c9) u; go_simp; try with_reducible rfl
    try simp only [List.getElem_toArray]
    try simp only [List.getElem_cons_succ]
    try simp only [List.getElem_cons_zero]
    try simp only [Act.put]
    try simp only [List.setIfInBounds_toArray]
    try simp only [List.set]
    refine wpAnyH_take (i := 6) (v := ?v6) rfl (by kernel_rfl) (by kernel_rfl) (by kernel_rfl) (fun _ _ _ h => h) (Or.inl ⟨by kernel_rfl, ?h6⟩) hHeld ?_
    case h6 => intro u hSw; (try dsimp only at hSw); go_simp; try with_reducible rfl
    try simp only [List.getElem_toArray]
    try simp only [List.getElem_cons_succ]
    try simp only [List.getElem_cons_zero]
    try simp only [Act.put]
    try simp only [List.setIfInBounds_toArray]
    try simp only [List.set]
    refine wpAnyH_take (i := 7) (v := ?v7) rfl (by kernel_rfl) (by kernel_rfl) (by kernel_rfl) (fun _ _ _ h => h) (Or.inl ⟨by kernel_rfl, ?h7⟩) hHeld ?_
    case h7 => intro u hSw; (try dsimp only at hSw); go_simp; try with_reducible rfl
    try simp only [List.getElem_toArray]
    try simp only [List.getElem_cons_succ]
    try simp only [List.getElem_cons_zero]
    try simp only [Act.put]
    try simp only [List.setIfInBounds_toArray]
    try simp only [List.set]
    refine wpAnyH_done (by kernel_rfl) ?_ _
    have g := hHeld.2.2.2
    clear hHeld
    go_wp2_with fail
    go_ret
    exact ⟨rfl, g⟩
  · subst hm64
    obtain ⟨NN, PP, Z, Zi, q1, q2, q3, q4, q5, q6, q7, q8, q9, q10, q11, q12, q13, q14, q15⟩ := diff_all l l2
    rw [q2, q3, q4] at ho
    rw [q1, q2]
    have HAp : Hid (apQ ys NN PP Z = 0 ∧ apB ys NN PP Z = ys2) := ⟨q5, q6⟩
    have HIv : Hid (ivN ys NN PP Z = NN ∧ ∀ i, i < NN → ivZ ys PP Z i = Zi i) := ⟨q7, q8⟩
    have HBk : Hid (apQ ys2 NN PP Zi = 0 ∧ apB ys2 NN PP Zi = ys) := ⟨q9, q10⟩
    have HRf : Hid (rfQ NN PP Z = 0) := q11
    have HTk : Hid (took Z NN = dc ys ys2 64) := q12
    have HZl : Hid (∀ i, i < NN → (Z i).length ≤ 64) := q14
    have HZi : Hid (∀ i, i < NN → (Zi i).length ≤ 64) := q15
    have rr := ownS_reads ho
    clear q1 q2 q3 q4 q5 q6 q7 q8 q9 q10 q11 q12 q14 q15 ho l l2 m2
    go_upto_region 5 with (fail)
    generalize hY : World.alloc w2 _ = Y
    have g2' : Below w2.heap.size w2 Y := by rw [← hY]; go_grown
    have t0 : Y.cell? ⟨w2.heap.size, 0, none⟩ = some (.int .i64 0) := by rw [← hY]; simp [go_sem]
    have t1 : Y.cell? ⟨w2.heap.size, 1, none⟩ = some (.slice a' NN c') := by rw [← hY]; simp [go_sem]
    have ya := ya.below g2' (Nat.le_refl _)
    have yb := yb.below g2' (Nat.le_refl _)
    have rr := rr.below g2' (Nat.le_refl _)
    have g1 := g1.trans (g2'.mono g1.size)
    clear hY g2'
    generalize w2.heap.size = bd at t0 t1 ⊢
    go_wp2_with fail
    refine (implApplyRuns_any _ ys 64 dd a' NN c' PP A C Z _ HL.out (by omega) ya (by omega) (fun i hi => Nat.le_trans (HZl.out i hi) (by omega)) rr).mono ?_
    rintro e w3 ⟨ax, cx, rfl, gb, yx⟩
    rw [HAp.out.2] at yx
    rw [HAp.out.1, HAp.out.2, HL2.out]
    have rx := yx.reads
    have ya := ya.below gb (Nat.le_refl _)
    have yb := yb.below gb (Nat.le_refl _)
    have rr := rr.below gb (Nat.le_refl _)
    have t1 := cellUp gb t1
    have g1 := g1.trans (gb.mono g1.size)
    clear gb yx t0
    go_upto_region 8 with (fail)
    generalize hY : World.alloc w3 _ = Y3
    have g2' : Below w3.heap.size w3 Y3 := by rw [← hY]; go_grown
    have x0 : Y3.cell? ⟨w3.heap.size, 0, none⟩ = some (.int .i64 0) := by rw [← hY]; simp [go_sem]
    have x1 : Y3.cell? ⟨w3.heap.size, 1, none⟩ = some (.slice ax 64 cx) := by rw [← hY]; simp [go_sem]
    have ya := ya.below g2' (Nat.le_refl _)
    have yb := yb.below g2' (Nat.le_refl _)
    have rx := rx.below g2' (Nat.le_refl _)
    have rr := rr.below g2' (Nat.le_refl _)
    have t1 := cellUp g2' t1
    have g1 := g1.trans (g2'.mono g1.size)
    clear hY g2'
    generalize w3.heap.size = bx at x0 x1 ⊢
    go_wp2_with fail
    refine (implInverseRuns_any _ ys 64 dd a' NN c' PP A C Z _ HL.out (by omega) ya (by omega) (fun i hi => Nat.le_trans (HZl.out i hi) (by omega)) rr).mono ?_
    rintro e w4 ⟨ai, ci, Ai, Ci, Fi, rfl, gb, oi⟩
    rw [HIv.out.1] at oi
    rw [HAp.out.1, HIv.out.1]
    have ri := ownS_reads (oi.congr (fun _ _ => rfl) HIv.out.2)
    have ya := ya.below gb (Nat.le_refl _)
    have yb := yb.below gb (Nat.le_refl _)
    have rx := rx.below gb (Nat.le_refl _)
    have rr := rr.below gb (Nat.le_refl _)
    have t1 := cellUp gb t1
    have x0 := cellUp gb x0
    have x1 := cellUp gb x1
    have g1 := g1.trans (gb.mono g1.size)
    clear gb oi
    go_upto_region 9 with (fail)
    generalize hY : World.alloc w4 _ = Y4
    have g2' : Below w4.heap.size w4 Y4 := by rw [← hY]; go_grown
    have i0 : Y4.cell? ⟨w4.heap.size, 0, none⟩ = some (.int .i64 0) := by rw [← hY]; simp [go_sem]
    have i1 : Y4.cell? ⟨w4.heap.size, 1, none⟩ = some (.slice ai NN ci) := by rw [← hY]; simp [go_sem]
    have ya := ya.below g2' (Nat.le_refl _)
    have yb := yb.below g2' (Nat.le_refl _)
    have rx := rx.below g2' (Nat.le_refl _)
    have rr := rr.below g2' (Nat.le_refl _)
    have ri := ri.below g2' (Nat.le_refl _)
    have t1 := cellUp g2' t1
    have x0 := cellUp g2' x0
    have x1 := cellUp g2' x1
    have g1 := g1.trans (g2'.mono g1.size)
    clear hY g2'
    generalize w4.heap.size = bi at i0 i1 ⊢
    go_wp2_with fail
    refine (implApplyRuns_any _ ys2 64 d2 ai NN ci PP Ai Ci Zi _ HL2.out (by omega) yb (by omega) (fun i hi => Nat.le_trans (HZi.out i hi) (by omega)) ri).mono ?_
    rintro e w5 ⟨ay, cy, rfl, gb, yy⟩
    rw [HBk.out.2] at yy
    rw [HBk.out.1, HBk.out.2, HL.out]
    have ry := yy.reads
    have ya := ya.below gb (Nat.le_refl _)
    have yb := yb.below gb (Nat.le_refl _)
    have rx := rx.below gb (Nat.le_refl _)
    have rr := rr.below gb (Nat.le_refl _)
    have t1 := cellUp gb t1
    have x0 := cellUp gb x0
    have x1 := cellUp gb x1
    have i0 := cellUp gb i0
    have g1 := g1.trans (gb.mono g1.size)
    clear gb yy i1 ri
    go_upto_region 10 with (fail)
    generalize hY : World.alloc w5 _ = Y5
    have g2' : Below w5.heap.size w5 Y5 := by rw [← hY]; go_grown
    have hS : DiS w g g2 o ys ys2 bd bx bi w5.heap.size a' NN c' PP A C Z ax cx ay cy Y5 := ⟨g1.trans (g2'.mono g1.size), ya.below g2' (Nat.le_refl _), yb.below g2' (Nat.le_refl _), cellUp g2' t1, rr.below g2' (Nat.le_refl _), cellUp g2' x0, cellUp g2' x1, rx.below g2' (Nat.le_refl _), cellUp g2' i0, by rw [← hY]; simp [go_sem], ry.below g2' (Nat.le_refl _)⟩
    clear hY g2' g1 ya yb t1 rr x0 x1 rx i0 ry
    generalize w5.heap.size = bY at hS ⊢
    have HTl : Hid (∀ j, j < NN → took Z j + (Z j).length ≤ 64) := fun j hj => by
      have h := took_mono Z (j + 1) NN hj
      have h2 := HTk.out
      have h3 := dc_le ys ys2 64
      simp only [took] at h
      omega
    have HS1 : Hid (DiS w g g2 o ys ys2 bd bx bi bY a' NN c' PP A C Z ax cx ay cy Y5) := hS
    have d1 := hS.d1
    go_wp2_with fail
    go_loopw [9, 10] (fun s k wr => ∃ j : Nat, j ≤ NN ∧ k = .int .i64 j ∧ s = .int .i64 (took Z j) ∧ wr = Y5) (fun _ k _ => NN - (intOf k).toNat)
    case atStart => exact ⟨0, Nat.zero_le _, rfl, rfl, rfl⟩
    case round =>
      obtain ⟨j, hj, rfl, rfl, hwr⟩ := hrel
      subst wr
      by_cases hlt : j < NN
      · obtain ⟨b0, off, ea, hc⟩ := hS.rr.resolve_left (by omega)
        obtain ⟨e0, e1, _⟩ := hc j hlt
        have hjn : (j : Int) < (NN : Int) := by omega
        have ht := HTl.out j hlt
        have HS : Hid (took Z (j + 1) = took Z j + (Z j).length) := rfl
        obtain ⟨l, hl⟩ : ∃ l, l = (Z j).length := ⟨_, rfl⟩
        obtain ⟨t, htv⟩ : ∃ t, t = took Z j := ⟨_, rfl⟩
        rw [← hl] at e1 ht HS
        rw [← htv] at ht HS ⊢
        rw [ea] at d1
        clear hl htv hc e0 ea hS
        go_wp2_with fail
        go_roundw
        case rel => exact ⟨j + 1, by omega, by go_num, by rw [HS.out]; rfl, by first | rfl | trivial⟩
        case measure => simp [intOf]; omega
      · have e : j = NN := by omega
        subst e
        rw [HTk.out]
        have hS := HS1.out
        obtain ⟨TT, hTT⟩ : ∃ TT, dc ys ys2 64 = TT := ⟨_, rfl⟩
        have HTT : Hid (dc ys ys2 64 = TT) := hTT
        rw [hTT]
        clear HS1 HTl HTk hTT
        go_wp2_with fail
        clear d1
        go_loopw [11, 12] (fun s k wr => ∃ i : Nat, i ≤ 64 ∧ k = .int .i64 i ∧ s = .int .i64 (dc ys ys2 i) ∧ DiS w g g2 o ys ys2 bd bx bi bY a' j c' PP A C Z ax cx ay cy wr) (fun _ k _ => 64 - (intOf k).toNat)
        case atStart => exact ⟨0, Nat.zero_le _, rfl, rfl, hS⟩
        case round =>
          clear hS
          obtain ⟨i, hi, rfl, rfl, hS⟩ := hrel
          by_cases hlt : i < 64
          · have hin : (i : Int) < 64 := by omega
            have hj1 : i < ys.length := by rw [HL.out]; exact hlt
            have hj2 : i < ys2.length := by rw [HL2.out]; exact hlt
            obtain ⟨x, hx⟩ : ∃ x, byt ys i = x := ⟨_, rfl⟩
            obtain ⟨y, hy⟩ : ∃ y, byt ys2 i = y := ⟨_, rfl⟩
            have HX : Hid (byt ys i = x) := hx
            have HY : Hid (byt ys2 i = y) := hy
            have hdc := dc_le ys ys2 i
            have HSn : Hid (dc ys ys2 (i + 1) = dc ys ys2 i + (if x ≠ y then 1 else 0)) := by show _ = _; rw [← hx, ← hy]; rfl
            generalize dc ys ys2 i = t at hdc HSn ⊢
            clear hx hy
            by_cases hxy : x = y
            · have HSn : Hid (dc ys ys2 (i + 1) = t) := by show _ = _; rw [HSn.out, if_neg (fun h => h hxy)]; rfl
              have d : (x != y) = false := by simp [hxy]
              clear hxy
              go_wp2_with fail
              refine wp_region_held_drew (S := fun V => DiS w g g2 o ys ys2 bd bx bi bY a' j c' PP A C Z ax cx ay cy V) (by kernel_rfl) (hS.up (Below.refl _ _).drew) (fun hHeld => ?_)
              generalize wr.drew = D at hHeld ⊢
              clear hS
              refine wpAnyH_take (i := 0) (v := ?v52) rfl (by kernel_rfl) (by kernel_rfl) (by kernel_rfl) (fun _ _ _ h => h) (Or.inl ⟨by kernel_rfl, ?h52⟩) hHeld ?_
              case h52 => intro u hSw; (try dsimp only at hSw); go_simp; try with_reducible rfl
              try simp only [List.getElem_toArray]
              try simp only [List.getElem_cons_succ]
              try simp only [List.getElem_cons_zero]
              try simp only [Act.put]
              try simp only [List.setIfInBounds_toArray]
              try simp only [List.set]
              refine wpAnyH_take (i := 1) (v := ?v53) rfl (by kernel_rfl) (by kernel_rfl) (by kernel_rfl) (fun _ _ _ h => h) (Or.inl ⟨by kernel_rfl, ?h53⟩) hHeld ?_
              case h53 => intro u hSw; (try dsimp only at hSw); go_simp; try with_reducible rfl
              try simp only [List.getElem_toArray]
              try simp only [List.getElem_cons_succ]
              try simp only [List.getElem_cons_zero]
              try simp only [Act.put]
              try simp only [List.setIfInBounds_toArray]
              try simp only [List.set]
              refine wpAnyH_take (i := 4) (v := ?v54) rfl (by kernel_rfl) (by kernel_rfl) (by kernel_rfl) (fun _ _ _ h => h) (Or.inl ⟨by kernel_rfl, ?h54⟩) hHeld ?_
              case h54 => intro u hSw; (try dsimp only at hSw); go_simp; try with_reducible rfl
              try simp only [List.getElem_toArray]
              try simp only [List.getElem_cons_succ]
              try simp only [List.getElem_cons_zero]
              try simp only [Act.put]
              try simp only [List.setIfInBounds_toArray]
              try simp only [List.set]
              refine wpAnyH_take (i := 5) (v := ?v55) rfl (by kernel_rfl) (by kernel_rfl) (by kernel_rfl) (fun _ _ _ h => h) (Or.inl ⟨by kernel_rfl, ?h55⟩) hHeld ?_
              case h55 => intro u hSw; (try dsimp only at hSw); go_simp; try with_reducible rfl
              try simp only [List.getElem_toArray]
              try simp only [List.getElem_cons_succ]
              try simp only [List.getElem_cons_zero]
              try simp only [Act.put]
              try simp only [List.setIfInBounds_toArray]
              try simp only [List.set]
              refine wpAnyH_take (i := 2) (v := ?v56) rfl (by kernel_rfl) (by kernel_rfl) (by kernel_rfl) (fun _ _ _ h => h) (Or.inl ⟨by kernel_rfl, ?h56⟩) hHeld ?_
              case h56 => intro u hSw; (try dsimp only at hSw); go_simp; try with_reducible rfl
              try simp only [List.getElem_toArray]
              try simp only [List.getElem_cons_succ]
              try simp only [List.getElem_cons_zero]
              try simp only [Act.put]
              try simp only [List.setIfInBounds_toArray]
              try simp only [List.set]
              refine wpAnyH_take (i := 6) (v := ?v57) rfl (by kernel_rfl) (by kernel_rfl) (by kernel_rfl) (fun _ _ _ h => h) (Or.inl ⟨by kernel_rfl, ?h57⟩) hHeld ?_
              case h57 => intro u hSw; (try dsimp only at hSw); go_simp; try with_reducible rfl
              try simp only [List.getElem_toArray]
              try simp only [List.getElem_cons_succ]
              try simp only [List.getElem_cons_zero]
              try simp only [Act.put]
              try simp only [List.setIfInBounds_toArray]
              try simp only [List.set]
              refine wpAnyH_take (i := 3) (v := ?v58) rfl (by kernel_rfl) (by kernel_rfl) (by kernel_rfl) (fun _ _ _ h => h) (Or.inl ⟨by kernel_rfl, ?h58⟩) hHeld ?_
              case h58 => intro u hSw; have e1 := rdAt0 hSw.ya i hj1; rw [HX.out] at e1; clear hSw; go_simp; try with_reducible rfl
              try simp only [List.getElem_toArray]
              try simp only [List.getElem_cons_succ]
              try simp only [List.getElem_cons_zero]
              try simp only [Act.put]
              try simp only [List.setIfInBounds_toArray]
              try simp only [List.set]
              refine wpAnyH_take (i := 7) (v := ?v59) rfl (by kernel_rfl) (by kernel_rfl) (by kernel_rfl) (fun _ _ _ h => h) (Or.inl ⟨by kernel_rfl, ?h59⟩) hHeld ?_
              case h59 => intro u hSw; have e1 := rdAt hSw.yb i hj2; rw [HY.out] at e1; clear hSw; go_simp; try with_reducible rfl
              try simp only [List.getElem_toArray]
              try simp only [List.getElem_cons_succ]
              try simp only [List.getElem_cons_zero]
              try simp only [Act.put]
              try simp only [List.setIfInBounds_toArray]
              try simp only [List.set]
              refine wpAnyH_take (i := 8) (v := ?v60) rfl (by kernel_rfl) (by kernel_rfl) (by kernel_rfl) (fun _ _ _ h => h) (Or.inl ⟨by kernel_rfl, ?h60⟩) hHeld ?_
              case h60 => intro u hSw; (try dsimp only at hSw); go_simp; try with_reducible rfl
              try simp only [List.getElem_toArray]
              try simp only [List.getElem_cons_succ]
              try simp only [List.getElem_cons_zero]
              try simp only [Act.put]
              try simp only [List.setIfInBounds_toArray]
              try simp only [List.set]
              refine wpAnyH_done (by kernel_rfl) ?_ _
              go_wp2_with fail
              go_roundw
              case rel => exact ⟨i + 1, by omega, by go_num, by rw [HSn.out]; try rfl, hHeld⟩
              case measure => simp [intOf]; omega
            · have HSn : Hid (dc ys ys2 (i + 1) = t + 1) := by show _ = _; rw [HSn.out, if_pos hxy]
              have d : (x != y) = true := by simpa using hxy
              clear hxy
              go_wp2_with fail
              refine wp_region_held_drew (S := fun V => DiS w g g2 o ys ys2 bd bx bi bY a' j c' PP A C Z ax cx ay cy V) (by kernel_rfl) (hS.up (Below.refl _ _).drew) (fun hHeld => ?_)
              generalize wr.drew = D at hHeld ⊢
              clear hS
              refine wpAnyH_take (i := 0) (v := ?v61) rfl (by kernel_rfl) (by kernel_rfl) (by kernel_rfl) (fun _ _ _ h => h) (Or.inl ⟨by kernel_rfl, ?h61⟩) hHeld ?_
              case h61 => intro u hSw; (try dsimp only at hSw); go_simp; try with_reducible rfl
              try simp only [List.getElem_toArray]
              try simp only [List.getElem_cons_succ]
              try simp only [List.getElem_cons_zero]
              try simp only [Act.put]
              try simp only [List.setIfInBounds_toArray]
              try simp only [List.set]
              refine wpAnyH_take (i := 1) (v := ?v62) rfl (by kernel_rfl) (by kernel_rfl) (by kernel_rfl) (fun _ _ _ h => h) (Or.inl ⟨by kernel_rfl, ?h62⟩) hHeld ?_
              case h62 => intro u hSw; (try dsimp only at hSw); go_simp; try with_reducible rfl
              try simp only [List.getElem_toArray]
              try simp only [List.getElem_cons_succ]
              try simp only [List.getElem_cons_zero]
              try simp only [Act.put]
              try simp only [List.setIfInBounds_toArray]
              try simp only [List.set]
              refine wpAnyH_take (i := 4) (v := ?v63) rfl (by kernel_rfl) (by kernel_rfl) (by kernel_rfl) (fun _ _ _ h => h) (Or.inl ⟨by kernel_rfl, ?h63⟩) hHeld ?_
              case h63 => intro u hSw; (try dsimp only at hSw); go_simp; try with_reducible rfl
              try simp only [List.getElem_toArray]
              try simp only [List.getElem_cons_succ]
              try simp only [List.getElem_cons_zero]
              try simp only [Act.put]
              try simp only [List.setIfInBounds_toArray]
              try simp only [List.set]
              refine wpAnyH_take (i := 5) (v := ?v64) rfl (by kernel_rfl) (by kernel_rfl) (by kernel_rfl) (fun _ _ _ h => h) (Or.inl ⟨by kernel_rfl, ?h64⟩) hHeld ?_
              case h64 => intro u hSw; (try dsimp only at hSw); go_simp; try with_reducible rfl
              try simp only [List.getElem_toArray]
              try simp only [List.getElem_cons_succ]
              try simp only [List.getElem_cons_zero]
              try simp only [Act.put]
              try simp only [List.setIfInBounds_toArray]
              try simp only [List.set]
              refine wpAnyH_take (i := 2) (v := ?v65) rfl (by kernel_rfl) (by kernel_rfl) (by kernel_rfl) (fun _ _ _ h => h) (Or.inl ⟨by kernel_rfl, ?h65⟩) hHeld ?_
              case h65 => intro u hSw; (try dsimp only at hSw); go_simp; try with_reducible rfl
              try simp only [List.getElem_toArray]
              try simp only [List.getElem_cons_succ]
              try simp only [List.getElem_cons_zero]
              try simp only [Act.put]
              try simp only [List.setIfInBounds_toArray]
              try simp only [List.set]
              refine wpAnyH_take (i := 6) (v := ?v66) rfl (by kernel_rfl) (by kernel_rfl) (by kernel_rfl) (fun _ _ _ h => h) (Or.inl ⟨by kernel_rfl, ?h66⟩) hHeld ?_
              case h66 => intro u hSw; (try dsimp only at hSw); go_simp; try with_reducible rfl
              try simp only [List.getElem_toArray]
              try simp only [List.getElem_cons_succ]
              try simp only [List.getElem_cons_zero]
              try simp only [Act.put]
              try simp only [List.setIfInBounds_toArray]
              try simp only [List.set]
              refine wpAnyH_take (i := 3) (v := ?v67) rfl (by kernel_rfl) (by kernel_rfl) (by kernel_rfl) (fun _ _ _ h => h) (Or.inl ⟨by kernel_rfl, ?h67⟩) hHeld ?_
              case h67 => intro u hSw; have e1 := rdAt0 hSw.ya i hj1; rw [HX.out] at e1; clear hSw; go_simp; try with_reducible rfl
              try simp only [List.getElem_toArray]
              try simp only [List.getElem_cons_succ]
              try simp only [List.getElem_cons_zero]
              try simp only [Act.put]
              try simp only [List.setIfInBounds_toArray]
              try simp only [List.set]
              refine wpAnyH_take (i := 7) (v := ?v68) rfl (by kernel_rfl) (by kernel_rfl) (by kernel_rfl) (fun _ _ _ h => h) (Or.inl ⟨by kernel_rfl, ?h68⟩) hHeld ?_
              case h68 => intro u hSw; have e1 := rdAt hSw.yb i hj2; rw [HY.out] at e1; clear hSw; go_simp; try with_reducible rfl
              try simp only [List.getElem_toArray]
              try simp only [List.getElem_cons_succ]
              try simp only [List.getElem_cons_zero]
              try simp only [Act.put]
              try simp only [List.setIfInBounds_toArray]
              try simp only [List.set]
              refine wpAnyH_take (i := 8) (v := ?v69) rfl (by kernel_rfl) (by kernel_rfl) (by kernel_rfl) (fun _ _ _ h => h) (Or.inl ⟨by kernel_rfl, ?h69⟩) hHeld ?_
              case h69 => intro u hSw; (try dsimp only at hSw); go_simp; try with_reducible rfl
              try simp only [List.getElem_toArray]
              try simp only [List.getElem_cons_succ]
              try simp only [List.getElem_cons_zero]
              try simp only [Act.put]
              try simp only [List.setIfInBounds_toArray]
              try simp only [List.set]
              refine wpAnyH_done (by kernel_rfl) ?_ _
              go_wp2_with fail
              go_roundw
              case rel => exact ⟨i + 1, by omega, by go_num, by rw [HSn.out]; try rfl, hHeld⟩
              case measure => simp [intOf]; omega
          · have e : i = 64 := by omega
            subst e
            rw [HTT.out]
            go_wp2_with fail
            refine (HD.out _ hS.g_).mono ?_
            rintro e w6 ⟨v, u, rfl, ⟨g3, o3, m3, d3, ys3, rfl, k1, k2, k3, k4, k5, k6⟩, ⟨au, nu, cu, Pu, Au, Cu, Zu, rfl, ru, hnu, hZu⟩, gb⟩
            have hS := hS.up gb
            have rv : Reads w6 (some ⟨g3, o3, none⟩) ys3 := k5.reads
            have HL3 : Hid (ys3.length = m3) := k1
            have HZu : Hid (∀ i, i < nu → (Zu i).length ≤ 1048576) := fun i hi => Nat.le_trans (hZu i hi) (by omega)
            clear gb k1 k5 k6 hZu HTT
            generalize hpv : (some ⟨g3, o3, none⟩ : Option Addr) = pv at rv ⊢
            clear hpv
            go_wp2_with fail
            refine (implApplyRuns_any pv ys3 m3 d3 au nu cu Pu Au Cu Zu _ HL3.out (by omega) rv (by omega) HZu.out ru).mono ?_
            rintro e w7 ⟨a3, c3, rfl, gb, y3⟩
            have hS := hS.up gb
            have rv := rv.below gb (Nat.le_refl _)
            have ru := ru.below gb (Nat.le_refl _)
            have r3 := y3.reads
            obtain ⟨q3, hq3⟩ : ∃ q3, apQ ys3 nu Pu Zu = q3 := ⟨_, rfl⟩
            obtain ⟨us, hus⟩ : ∃ us, apB ys3 nu Pu Zu = us := ⟨_, rfl⟩
            obtain ⟨n3, hn3⟩ : ∃ n3, us.length = n3 := ⟨_, rfl⟩
            have HQ3 : Hid (apQ ys3 nu Pu Zu = q3) := hq3
            have HU : Hid (apB ys3 nu Pu Zu = us) := hus
            have HN3 : Hid (us.length = n3) := hn3
            rw [hus] at r3
            rw [hq3, hus, hn3]
            clear gb y3 hq3 hus hn3
            go_upto_region 23 with (fail)
            generalize hY : World.alloc w7 _ = Y7
            have g2' : Below w7.heap.size w7 Y7 := by rw [← hY]; go_grown
            have hHeld : DiT w g g2 o ys ys2 bd bx bi bY a' j c' PP A C Z ax cx ay cy w7.heap.size q3 a3 n3 c3 us pv ys3 au nu Pu Au Cu Zu Y7 := ⟨hS.up g2', by rw [← hY]; simp [go_sem], by rw [← hY]; simp [go_sem], r3.below g2' (Nat.le_refl _), rv.below g2' (Nat.le_refl _), ru.below g2' (Nat.le_refl _)⟩
            clear hY g2' hS r3 rv ru
            generalize w7.heap.size = br at hHeld ⊢
            refine wp_region_held_drew (S := fun V => DiT w g g2 o ys ys2 bd bx bi bY a' j c' PP A C Z ax cx ay cy br q3 a3 n3 c3 us pv ys3 au nu Pu Au Cu Zu V) (by kernel_rfl) (hHeld.up (Below.refl _ _).drew) (fun hHeld => ?_)
            generalize Y7.drew = D at hHeld ⊢
            refine wpAnyH_take (i := 0) (v := ?v8) rfl (by kernel_rfl) (by kernel_rfl) (by kernel_rfl) (fun _ _ _ h => h) (Or.inl ⟨by kernel_rfl, ?h8⟩) hHeld ?_
            case h8 => intro u hSw; (try dsimp only at hSw); go_simp; try with_reducible rfl
            try simp only [List.getElem_toArray]
            try simp only [List.getElem_cons_succ]
            try simp only [List.getElem_cons_zero]
            try simp only [Act.put]
            try simp only [List.setIfInBounds_toArray]
            try simp only [List.set]
            refine wpAnyH_take (i := 1) (v := ?v9) rfl (by kernel_rfl) (by kernel_rfl) (by kernel_rfl) (fun _ _ _ h => h) (Or.inl ⟨by kernel_rfl, ?h9⟩) hHeld ?_
            case h9 => intro u hSw; obtain ⟨⟨_, _, _, d1, _, x0, x1, _, i0, y1, _⟩, r0, r1, _, _, _⟩ := hSw; go_simp; try with_reducible rfl
            try simp only [List.getElem_toArray]
            try simp only [List.getElem_cons_succ]
            try simp only [List.getElem_cons_zero]
            try simp only [Act.put]
            try simp only [List.setIfInBounds_toArray]
            try simp only [List.set]
            refine wpAnyH_ready (rs := [2]) (by kernel_rfl) (by simp) ?_
            refine AllReadyH.cons rfl (fun K hK => ?_) AllReadyH.nil
            go_simp
            go_wp2_with (go_at_call 15; refine (implRunsFault_any a' j c' PP A C Z _ (by omega) (fun i hi => Nat.le_trans (HZl.out i hi) (by omega)) hHeld.s.rr).mono ?_; rintro e w' ⟨rfl, hb⟩; rw [HRf.out])
            refine hK.out _ _ (hHeld.up hb) (fun hHeld => ?_)
            clear hK K
            clear hb
            try simp only [Act.put]
            try simp only [List.setIfInBounds_toArray]
            try simp only [List.set]
            refine wpAnyH_take (i := 3) (v := ?v10) rfl (by kernel_rfl) (by kernel_rfl) (by kernel_rfl) (fun _ _ _ h => h) (Or.inl ⟨by kernel_rfl, ?h10⟩) hHeld ?_
            case h10 => intro u hSw; (try dsimp only at hSw); go_simp; try with_reducible rfl
            try simp only [List.getElem_toArray]
            try simp only [List.getElem_cons_succ]
            try simp only [List.getElem_cons_zero]
            try simp only [Act.put]
            try simp only [List.setIfInBounds_toArray]
            try simp only [List.set]
            refine wpAnyH_take (i := 4) (v := ?v11) rfl (by kernel_rfl) (by kernel_rfl) (by kernel_rfl) (fun _ _ _ h => h) (Or.inl ⟨by kernel_rfl, ?h11⟩) hHeld ?_
            case h11 => intro u hSw; (try dsimp only at hSw); go_simp; try with_reducible rfl
            try simp only [List.getElem_toArray]
            try simp only [List.getElem_cons_succ]
            try simp only [List.getElem_cons_zero]
            try simp only [Act.put]
            try simp only [List.setIfInBounds_toArray]
            try simp only [List.set]
            refine wpAnyH_take (i := 5) (v := ?v12) rfl (by kernel_rfl) (by kernel_rfl) (by kernel_rfl) (fun _ _ _ h => h) (Or.inl ⟨by kernel_rfl, ?h12⟩) hHeld ?_
            case h12 => intro u hSw; (try dsimp only at hSw); go_simp; try with_reducible rfl
            try simp only [List.getElem_toArray]
            try simp only [List.getElem_cons_succ]
            try simp only [List.getElem_cons_zero]
            try simp only [Act.put]
            try simp only [List.setIfInBounds_toArray]
            try simp only [List.set]
            refine wpAnyH_take (i := 6) (v := ?v13) rfl (by kernel_rfl) (by kernel_rfl) (by kernel_rfl) (fun _ _ _ h => h) (Or.inl ⟨by kernel_rfl, ?h13⟩) hHeld ?_
            case h13 => intro u hSw; obtain ⟨⟨_, _, _, d1, _, x0, x1, _, i0, y1, _⟩, r0, r1, _, _, _⟩ := hSw; go_simp; try with_reducible rfl
            try simp only [List.getElem_toArray]
            try simp only [List.getElem_cons_succ]
            try simp only [List.getElem_cons_zero]
            try simp only [Act.put]
            try simp only [List.setIfInBounds_toArray]
            try simp only [List.set]
            refine wpAnyH_take (i := 7) (v := ?v14) rfl (by kernel_rfl) (by kernel_rfl) (by kernel_rfl) (fun _ _ _ h => h) (Or.inl ⟨by kernel_rfl, ?h14⟩) hHeld ?_
            case h14 => intro u hSw; (try dsimp only at hSw); go_simp; try with_reducible rfl
            try simp only [List.getElem_toArray]
            try simp only [List.getElem_cons_succ]
            try simp only [List.getElem_cons_zero]
            try simp only [Act.put]
            try simp only [List.setIfInBounds_toArray]
            try simp only [List.set]
            refine wpAnyH_take (i := 8) (v := ?v15) rfl (by kernel_rfl) (by kernel_rfl) (by kernel_rfl) (fun _ _ _ h => h) (Or.inl ⟨by kernel_rfl, ?h15⟩) hHeld ?_
            case h15 => intro u hSw; (try dsimp only at hSw); go_simp; try with_reducible rfl
            try simp only [List.getElem_toArray]
            try simp only [List.getElem_cons_succ]
            try simp only [List.getElem_cons_zero]
            try simp only [Act.put]
            try simp only [List.setIfInBounds_toArray]
            try simp only [List.set]
            refine wpAnyH_take (i := 9) (v := ?v16) rfl (by kernel_rfl) (by kernel_rfl) (by kernel_rfl) (fun _ _ _ h => h) (Or.inl ⟨by kernel_rfl, ?h16⟩) hHeld ?_
            case h16 => intro u hSw; (try dsimp only at hSw); go_simp; try with_reducible rfl
            try simp only [List.getElem_toArray]
            try simp only [List.getElem_cons_succ]
            try simp only [List.getElem_cons_zero]
            try simp only [Act.put]
            try simp only [List.setIfInBounds_toArray]
            try simp only [List.set]
            refine wpAnyH_take (i := 10) (v := ?v17) rfl (by kernel_rfl) (by kernel_rfl) (by kernel_rfl) (fun _ _ _ h => h) (Or.inl ⟨by kernel_rfl, ?h17⟩) hHeld ?_
            case h17 => intro u hSw; (try dsimp only at hSw); go_simp; try with_reducible rfl
            try simp only [List.getElem_toArray]
            try simp only [List.getElem_cons_succ]
            try simp only [List.getElem_cons_zero]
            try simp only [Act.put]
            try simp only [List.setIfInBounds_toArray]
            try simp only [List.set]
            refine wpAnyH_take (i := 12) (v := ?v18) rfl (by kernel_rfl) (by kernel_rfl) (by kernel_rfl) (fun _ _ _ h => h) (Or.inl ⟨by kernel_rfl, ?h18⟩) hHeld ?_
            case h18 => intro u hSw; (try dsimp only at hSw); go_simp; try with_reducible rfl
            try simp only [List.getElem_toArray]
            try simp only [List.getElem_cons_succ]
            try simp only [List.getElem_cons_zero]
            try simp only [Act.put]
            try simp only [List.setIfInBounds_toArray]
            try simp only [List.set]
            refine wpAnyH_take (i := 11) (v := ?v19) rfl (by kernel_rfl) (by kernel_rfl) (by kernel_rfl) (fun _ _ _ h => h) (Or.inl ⟨by kernel_rfl, ?h19⟩) hHeld ?_
            case h19 => intro u hSw; obtain ⟨⟨_, _, _, d1, _, x0, x1, _, i0, y1, _⟩, r0, r1, _, _, _⟩ := hSw; go_simp; try with_reducible rfl
            try simp only [List.getElem_toArray]
            try simp only [List.getElem_cons_succ]
            try simp only [List.getElem_cons_zero]
            try simp only [Act.put]
            try simp only [List.setIfInBounds_toArray]
            try simp only [List.set]
            refine wpAnyH_ready (rs := [13]) (by kernel_rfl) (by simp) ?_
            refine AllReadyH.cons rfl (fun K hK => ?_) AllReadyH.nil
            go_simp
            go_wp2_with (go_at_call 16; refine (lwSame_same ax _ 64 cx d2 ys2 _ HL2.out hHeld.s.rx hHeld.s.yb).mono ?_; rintro e w' ⟨rfl, hw'⟩; subst w')
            refine hK.out _ _ (hHeld) (fun hHeld => ?_)
            clear hK K
            try simp only [Act.put]
            try simp only [List.setIfInBounds_toArray]
            try simp only [List.set]
            refine wpAnyH_take (i := 14) (v := ?v20) rfl (by kernel_rfl) (by kernel_rfl) (by kernel_rfl) (fun _ _ _ h => h) (Or.inl ⟨by kernel_rfl, ?h20⟩) hHeld ?_
            case h20 => intro u hSw; (try dsimp only at hSw); go_simp; try with_reducible rfl
            try simp only [List.getElem_toArray]
            try simp only [List.getElem_cons_succ]
            try simp only [List.getElem_cons_zero]
            try simp only [Act.put]
            try simp only [List.setIfInBounds_toArray]
            try simp only [List.set]
            refine wpAnyH_take (i := 15) (v := ?v21) rfl (by kernel_rfl) (by kernel_rfl) (by kernel_rfl) (fun _ _ _ h => h) (Or.inl ⟨by kernel_rfl, ?h21⟩) hHeld ?_
            case h21 => intro u hSw; (try dsimp only at hSw); go_simp; try with_reducible rfl
            try simp only [List.getElem_toArray]
            try simp only [List.getElem_cons_succ]
            try simp only [List.getElem_cons_zero]
            try simp only [Act.put]
            try simp only [List.setIfInBounds_toArray]
            try simp only [List.set]
            refine wpAnyH_take (i := 16) (v := ?v22) rfl (by kernel_rfl) (by kernel_rfl) (by kernel_rfl) (fun _ _ _ h => h) (Or.inl ⟨by kernel_rfl, ?h22⟩) hHeld ?_
            case h22 => intro u hSw; (try dsimp only at hSw); go_simp; try with_reducible rfl
            try simp only [List.getElem_toArray]
            try simp only [List.getElem_cons_succ]
            try simp only [List.getElem_cons_zero]
            try simp only [Act.put]
            try simp only [List.setIfInBounds_toArray]
            try simp only [List.set]
            refine wpAnyH_take (i := 17) (v := ?v23) rfl (by kernel_rfl) (by kernel_rfl) (by kernel_rfl) (fun _ _ _ h => h) (Or.inl ⟨by kernel_rfl, ?h23⟩) hHeld ?_
            case h23 => intro u hSw; obtain ⟨⟨_, _, _, d1, _, x0, x1, _, i0, y1, _⟩, r0, r1, _, _, _⟩ := hSw; go_simp; try with_reducible rfl
            try simp only [List.getElem_toArray]
            try simp only [List.getElem_cons_succ]
            try simp only [List.getElem_cons_zero]
            try simp only [Act.put]
            try simp only [List.setIfInBounds_toArray]
            try simp only [List.set]
            refine wpAnyH_take (i := 18) (v := ?v24) rfl (by kernel_rfl) (by kernel_rfl) (by kernel_rfl) (fun _ _ _ h => h) (Or.inl ⟨by kernel_rfl, ?h24⟩) hHeld ?_
            case h24 => intro u hSw; (try dsimp only at hSw); go_simp; try with_reducible rfl
            try simp only [List.getElem_toArray]
            try simp only [List.getElem_cons_succ]
            try simp only [List.getElem_cons_zero]
            try simp only [Act.put]
            try simp only [List.setIfInBounds_toArray]
            try simp only [List.set]
            refine wpAnyH_take (i := 19) (v := ?v25) rfl (by kernel_rfl) (by kernel_rfl) (by kernel_rfl) (fun _ _ _ h => h) (Or.inl ⟨by kernel_rfl, ?h25⟩) hHeld ?_
            case h25 => intro u hSw; (try dsimp only at hSw); go_simp; try with_reducible rfl
            try simp only [List.getElem_toArray]
            try simp only [List.getElem_cons_succ]
            try simp only [List.getElem_cons_zero]
            try simp only [Act.put]
            try simp only [List.setIfInBounds_toArray]
            try simp only [List.set]
            refine wpAnyH_take (i := 20) (v := ?v26) rfl (by kernel_rfl) (by kernel_rfl) (by kernel_rfl) (fun _ _ _ h => h) (Or.inl ⟨by kernel_rfl, ?h26⟩) hHeld ?_
            case h26 => intro u hSw; (try dsimp only at hSw); go_simp; try with_reducible rfl
            try simp only [List.getElem_toArray]
            try simp only [List.getElem_cons_succ]
            try simp only [List.getElem_cons_zero]
            try simp only [Act.put]
            try simp only [List.setIfInBounds_toArray]
            try simp only [List.set]
            refine wpAnyH_take (i := 21) (v := ?v27) rfl (by kernel_rfl) (by kernel_rfl) (by kernel_rfl) (fun _ _ _ h => h) (Or.inl ⟨by kernel_rfl, ?h27⟩) hHeld ?_
            case h27 => intro u hSw; (try dsimp only at hSw); go_simp; try with_reducible rfl
            try simp only [List.getElem_toArray]
            try simp only [List.getElem_cons_succ]
            try simp only [List.getElem_cons_zero]
            try simp only [Act.put]
            try simp only [List.setIfInBounds_toArray]
            try simp only [List.set]
            refine wpAnyH_take (i := 23) (v := ?v28) rfl (by kernel_rfl) (by kernel_rfl) (by kernel_rfl) (fun _ _ _ h => h) (Or.inl ⟨by kernel_rfl, ?h28⟩) hHeld ?_
            case h28 => intro u hSw; (try dsimp only at hSw); go_simp; try with_reducible rfl
            try simp only [List.getElem_toArray]
            try simp only [List.getElem_cons_succ]
            try simp only [List.getElem_cons_zero]
            try simp only [Act.put]
            try simp only [List.setIfInBounds_toArray]
            try simp only [List.set]
            refine wpAnyH_take (i := 22) (v := ?v29) rfl (by kernel_rfl) (by kernel_rfl) (by kernel_rfl) (fun _ _ _ h => h) (Or.inl ⟨by kernel_rfl, ?h29⟩) hHeld ?_
            case h29 => intro u hSw; obtain ⟨⟨_, _, _, d1, _, x0, x1, _, i0, y1, _⟩, r0, r1, _, _, _⟩ := hSw; go_simp; try with_reducible rfl
            try simp only [List.getElem_toArray]
            try simp only [List.getElem_cons_succ]
            try simp only [List.getElem_cons_zero]
            try simp only [Act.put]
            try simp only [List.setIfInBounds_toArray]
            try simp only [List.set]
            refine wpAnyH_ready (rs := [24]) (by kernel_rfl) (by simp) ?_
            refine AllReadyH.cons rfl (fun K hK => ?_) AllReadyH.nil
            go_simp
            go_wp2_with (go_at_call 16; refine (lwSame_same ay _ 64 cy dd ys _ HL.out hHeld.s.ry hHeld.s.ya).mono ?_; rintro e w' ⟨rfl, hw'⟩; subst w')
            refine hK.out _ _ (hHeld) (fun hHeld => ?_)
            clear hK K
            try simp only [Act.put]
            try simp only [List.setIfInBounds_toArray]
            try simp only [List.set]
            refine wpAnyH_take (i := 25) (v := ?v30) rfl (by kernel_rfl) (by kernel_rfl) (by kernel_rfl) (fun _ _ _ h => h) (Or.inl ⟨by kernel_rfl, ?h30⟩) hHeld ?_
            case h30 => intro u hSw; (try dsimp only at hSw); go_simp; try with_reducible rfl
            try simp only [List.getElem_toArray]
            try simp only [List.getElem_cons_succ]
            try simp only [List.getElem_cons_zero]
            try simp only [Act.put]
            try simp only [List.setIfInBounds_toArray]
            try simp only [List.set]
            refine wpAnyH_take (i := 26) (v := ?v31) rfl (by kernel_rfl) (by kernel_rfl) (by kernel_rfl) (fun _ _ _ h => h) (Or.inl ⟨by kernel_rfl, ?h31⟩) hHeld ?_
            case h31 => intro u hSw; (try dsimp only at hSw); go_simp; try with_reducible rfl
            try simp only [List.getElem_toArray]
            try simp only [List.getElem_cons_succ]
            try simp only [List.getElem_cons_zero]
            try simp only [Act.put]
            try simp only [List.setIfInBounds_toArray]
            try simp only [List.set]
            refine wpAnyH_take (i := 27) (v := ?v32) rfl (by kernel_rfl) (by kernel_rfl) (by kernel_rfl) (fun _ _ _ h => h) (Or.inl ⟨by kernel_rfl, ?h32⟩) hHeld ?_
            case h32 => intro u hSw; (try dsimp only at hSw); go_simp; try with_reducible rfl
            try simp only [List.getElem_toArray]
            try simp only [List.getElem_cons_succ]
            try simp only [List.getElem_cons_zero]
            try simp only [Act.put]
            try simp only [List.setIfInBounds_toArray]
            try simp only [List.set]
            refine wpAnyH_take (i := 28) (v := ?v33) rfl (by kernel_rfl) (by kernel_rfl) (by kernel_rfl) (fun _ _ _ h => h) (Or.inl ⟨by kernel_rfl, ?h33⟩) hHeld ?_
            case h33 => intro u hSw; (try dsimp only at hSw); go_simp; try with_reducible rfl
            try simp only [List.getElem_toArray]
            try simp only [List.getElem_cons_succ]
            try simp only [List.getElem_cons_zero]
            try simp only [Act.put]
            try simp only [List.setIfInBounds_toArray]
            try simp only [List.set]
            refine wpAnyH_take (i := 29) (v := ?v34) rfl (by kernel_rfl) (by kernel_rfl) (by kernel_rfl) (fun _ _ _ h => h) (Or.inl ⟨by kernel_rfl, ?h34⟩) hHeld ?_
            case h34 => intro u hSw; (try dsimp only at hSw); go_simp; try with_reducible rfl
            try simp only [List.getElem_toArray]
            try simp only [List.getElem_cons_succ]
            try simp only [List.getElem_cons_zero]
            try simp only [Act.put]
            try simp only [List.setIfInBounds_toArray]
            try simp only [List.set]
            refine wpAnyH_take (i := 30) (v := ?v35) rfl (by kernel_rfl) (by kernel_rfl) (by kernel_rfl) (fun _ _ _ h => h) (Or.inl ⟨by kernel_rfl, ?h35⟩) hHeld ?_
            case h35 => intro u hSw; (try dsimp only at hSw); go_simp; try with_reducible rfl
            try simp only [List.getElem_toArray]
            try simp only [List.getElem_cons_succ]
            try simp only [List.getElem_cons_zero]
            try simp only [Act.put]
            try simp only [List.setIfInBounds_toArray]
            try simp only [List.set]
            refine wpAnyH_take (i := 31) (v := ?v36) rfl (by kernel_rfl) (by kernel_rfl) (by kernel_rfl) (fun _ _ _ h => h) (Or.inl ⟨by kernel_rfl, ?h36⟩) hHeld ?_
            case h36 => intro u hSw; (try dsimp only at hSw); go_simp; try with_reducible rfl
            try simp only [List.getElem_toArray]
            try simp only [List.getElem_cons_succ]
            try simp only [List.getElem_cons_zero]
            try simp only [Act.put]
            try simp only [List.setIfInBounds_toArray]
            try simp only [List.set]
            refine wpAnyH_take (i := 32) (v := ?v37) rfl (by kernel_rfl) (by kernel_rfl) (by kernel_rfl) (fun _ _ _ h => h) (Or.inl ⟨by kernel_rfl, ?h37⟩) hHeld ?_
            case h37 => intro u hSw; (try dsimp only at hSw); go_simp; try with_reducible rfl
            try simp only [List.getElem_toArray]
            try simp only [List.getElem_cons_succ]
            try simp only [List.getElem_cons_zero]
            try simp only [Act.put]
            try simp only [List.setIfInBounds_toArray]
            try simp only [List.set]
            refine wpAnyH_take (i := 34) (v := ?v38) rfl (by kernel_rfl) (by kernel_rfl) (by kernel_rfl) (fun _ _ _ h => h) (Or.inl ⟨by kernel_rfl, ?h38⟩) hHeld ?_
            case h38 => intro u hSw; (try dsimp only at hSw); go_simp; try with_reducible rfl
            try simp only [List.getElem_toArray]
            try simp only [List.getElem_cons_succ]
            try simp only [List.getElem_cons_zero]
            try simp only [Act.put]
            try simp only [List.setIfInBounds_toArray]
            try simp only [List.set]
            refine wpAnyH_take (i := 35) (v := ?v39) rfl (by kernel_rfl) (by kernel_rfl) (by kernel_rfl) (fun _ _ _ h => h) (Or.inl ⟨by kernel_rfl, ?h39⟩) hHeld ?_
            case h39 => intro u hSw; (try dsimp only at hSw); go_simp; try with_reducible rfl
            try simp only [List.getElem_toArray]
            try simp only [List.getElem_cons_succ]
            try simp only [List.getElem_cons_zero]
            try simp only [Act.put]
            try simp only [List.setIfInBounds_toArray]
            try simp only [List.set]
            refine wpAnyH_take (i := 33) (v := ?v40) rfl (by kernel_rfl) (by kernel_rfl) (by kernel_rfl) (fun _ _ _ h => h) (Or.inl ⟨by kernel_rfl, ?h40⟩) hHeld ?_
            case h40 => intro u hSw; obtain ⟨⟨_, _, _, d1, _, x0, x1, _, i0, y1, _⟩, r0, r1, _, _, _⟩ := hSw; go_simp; try with_reducible rfl
            try simp only [List.getElem_toArray]
            try simp only [List.getElem_cons_succ]
            try simp only [List.getElem_cons_zero]
            try simp only [Act.put]
            try simp only [List.setIfInBounds_toArray]
            try simp only [List.set]
            refine wpAnyH_ready (rs := [36]) (by kernel_rfl) (by simp) ?_
            refine AllReadyH.cons rfl (fun K hK => ?_) AllReadyH.nil
            go_simp
            go_wp2_with (go_at_call 17; refine (specApplyRuns_any pv ys3 m3 d3 au nu cu Pu Au Cu Zu _ HL3.out (by omega) hHeld.pv (by omega) HZu.out hHeld.ru).mono ?_; rintro e w' ⟨a8, d8, rfl, hb, y8⟩; rw [HQ3.out, HU.out, HN3.out])
            refine hK.out _ _ (hHeld.up hb) (fun hHeld => ?_)
            clear hK K
            clear hb
            try simp only [Act.put]
            try simp only [List.setIfInBounds_toArray]
            try simp only [List.set]
            refine wpAnyH_take (i := 37) (v := ?v41) rfl (by kernel_rfl) (by kernel_rfl) (by kernel_rfl) (fun _ _ _ h => h) (Or.inl ⟨by kernel_rfl, ?h41⟩) hHeld ?_
            case h41 => intro u hSw; have hfd := fld31_0 q3 (.slice a8 n3 d8) u; go_simp; try with_reducible rfl
            try simp only [List.getElem_toArray]
            try simp only [List.getElem_cons_succ]
            try simp only [List.getElem_cons_zero]
            try simp only [Act.put]
            try simp only [List.setIfInBounds_toArray]
            try simp only [List.set]
            refine wpAnyH_take (i := 38) (v := ?v42) rfl (by kernel_rfl) (by kernel_rfl) (by kernel_rfl) (fun _ _ _ h => h) (Or.inl ⟨by kernel_rfl, ?h42⟩) hHeld ?_
            case h42 => intro u hSw; (try dsimp only at hSw); go_simp; try with_reducible rfl
            try simp only [List.getElem_toArray]
            try simp only [List.getElem_cons_succ]
            try simp only [List.getElem_cons_zero]
            try simp only [Act.put]
            try simp only [List.setIfInBounds_toArray]
            try simp only [List.set]
            refine wpAnyH_take (i := 39) (v := ?v43) rfl (by kernel_rfl) (by kernel_rfl) (by kernel_rfl) (fun _ _ _ h => h) (Or.inl ⟨by kernel_rfl, ?h43⟩) hHeld ?_
            case h43 => intro u hSw; (try dsimp only at hSw); go_simp; try with_reducible rfl
            try simp only [List.getElem_toArray]
            try simp only [List.getElem_cons_succ]
            try simp only [List.getElem_cons_zero]
            try simp only [Act.put]
            try simp only [List.setIfInBounds_toArray]
            try simp only [List.set]
            refine wpAnyH_take (i := 40) (v := ?v44) rfl (by kernel_rfl) (by kernel_rfl) (by kernel_rfl) (fun _ _ _ h => h) (Or.inl ⟨by kernel_rfl, ?h44⟩) hHeld ?_
            case h44 => intro u hSw; (try dsimp only at hSw); go_simp; try with_reducible rfl
            try simp only [List.getElem_toArray]
            try simp only [List.getElem_cons_succ]
            try simp only [List.getElem_cons_zero]
            try simp only [Act.put]
            try simp only [List.setIfInBounds_toArray]
            try simp only [List.set]
            refine wpAnyH_take (i := 41) (v := ?v45) rfl (by kernel_rfl) (by kernel_rfl) (by kernel_rfl) (fun _ _ _ h => h) (Or.inl ⟨by kernel_rfl, ?h45⟩) hHeld ?_
            case h45 => intro u hSw; (try dsimp only at hSw); go_simp; try with_reducible rfl
            try simp only [List.getElem_toArray]
            try simp only [List.getElem_cons_succ]
            try simp only [List.getElem_cons_zero]
            try simp only [Act.put]
            try simp only [List.setIfInBounds_toArray]
            try simp only [List.set]
            refine wpAnyH_take (i := 43) (v := ?v46) rfl (by kernel_rfl) (by kernel_rfl) (by kernel_rfl) (fun _ _ _ h => h) (Or.inl ⟨by kernel_rfl, ?h46⟩) hHeld ?_
            case h46 => intro u hSw; (try dsimp only at hSw); go_simp; try with_reducible rfl
            try simp only [List.getElem_toArray]
            try simp only [List.getElem_cons_succ]
            try simp only [List.getElem_cons_zero]
            try simp only [Act.put]
            try simp only [List.setIfInBounds_toArray]
            try simp only [List.set]
            refine wpAnyH_take (i := 44) (v := ?v47) rfl (by kernel_rfl) (by kernel_rfl) (by kernel_rfl) (fun _ _ _ h => h) (Or.inl ⟨by kernel_rfl, ?h47⟩) hHeld ?_
            case h47 => intro u hSw; (try dsimp only at hSw); go_simp; try with_reducible rfl
            try simp only [List.getElem_toArray]
            try simp only [List.getElem_cons_succ]
            try simp only [List.getElem_cons_zero]
            try simp only [Act.put]
            try simp only [List.setIfInBounds_toArray]
            try simp only [List.set]
            refine wpAnyH_take (i := 42) (v := ?v48) rfl (by kernel_rfl) (by kernel_rfl) (by kernel_rfl) (fun _ _ _ h => h) (Or.inl ⟨by kernel_rfl, ?h48⟩) hHeld ?_
            case h48 => intro u hSw; obtain ⟨⟨_, _, _, d1, _, x0, x1, _, i0, y1, _⟩, r0, r1, _, _, _⟩ := hSw; go_simp; try with_reducible rfl
            try simp only [List.getElem_toArray]
            try simp only [List.getElem_cons_succ]
            try simp only [List.getElem_cons_zero]
            try simp only [Act.put]
            try simp only [List.setIfInBounds_toArray]
            try simp only [List.set]
            refine wpAnyH_ready (rs := [45]) (by kernel_rfl) (by simp) ?_
            refine AllReadyH.cons rfl (fun K hK => ?_) AllReadyH.nil
            go_simp
            go_wp2_with (go_at_call 17; refine (specApplyRuns_any pv ys3 m3 d3 au nu cu Pu Au Cu Zu _ HL3.out (by omega) hHeld.pv (by omega) HZu.out hHeld.ru).mono ?_; rintro e w' ⟨a9, d9, rfl, hb, y9⟩; rw [HU.out] at y9; rw [HQ3.out, HU.out, HN3.out]; have r9 := y9.reads; clear y9)
            refine hK.out _ _ (hHeld.up hb) (fun hHeld => ?_)
            clear hK K
            clear hb
            try simp only [Act.put]
            try simp only [List.setIfInBounds_toArray]
            try simp only [List.set]
            refine wpAnyH_take (i := 46) (v := ?v49) rfl (by kernel_rfl) (by kernel_rfl) (by kernel_rfl) (fun _ _ _ h => h) (Or.inl ⟨by kernel_rfl, ?h49⟩) hHeld ?_
            case h49 => intro u hSw; have hfd := fld31_1 q3 (.slice a9 n3 d9) u; go_simp; try with_reducible rfl
            try simp only [List.getElem_toArray]
            try simp only [List.getElem_cons_succ]
            try simp only [List.getElem_cons_zero]
            try simp only [Act.put]
            try simp only [List.setIfInBounds_toArray]
            try simp only [List.set]
            refine wpAnyH_ready (rs := [47]) (by kernel_rfl) (by simp) ?_
            refine AllReadyH.cons rfl (fun K hK => ?_) AllReadyH.nil
            go_simp
            go_wp2_with (go_at_call 16; refine (lwSame_same a3 a9 n3 c3 d9 us _ HN3.out hHeld.r3 r9).mono ?_; rintro e w' ⟨rfl, hw'⟩; subst w')
            refine hK.out _ _ (hHeld) (fun hHeld => ?_)
            clear hK K
            try simp only [Act.put]
            try simp only [List.setIfInBounds_toArray]
            try simp only [List.set]
            refine wpAnyH_take (i := 48) (v := ?v50) rfl (by kernel_rfl) (by kernel_rfl) (by kernel_rfl) (fun _ _ _ h => h) (Or.inl ⟨by kernel_rfl, ?h50⟩) hHeld ?_
            case h50 => intro u hSw; (try dsimp only at hSw); go_simp; try with_reducible rfl
            try simp only [List.getElem_toArray]
            try simp only [List.getElem_cons_succ]
            try simp only [List.getElem_cons_zero]
            try simp only [Act.put]
            try simp only [List.setIfInBounds_toArray]
            try simp only [List.set]
            refine wpAnyH_take (i := 49) (v := ?v51) rfl (by kernel_rfl) (by kernel_rfl) (by kernel_rfl) (fun _ _ _ h => h) (Or.inl ⟨by kernel_rfl, ?h51⟩) hHeld ?_
            case h51 => intro u hSw; (try dsimp only at hSw); go_simp; try with_reducible rfl
            try simp only [List.getElem_toArray]
            try simp only [List.getElem_cons_succ]
            try simp only [List.getElem_cons_zero]
            try simp only [Act.put]
            try simp only [List.setIfInBounds_toArray]
            try simp only [List.set]
            refine wpAnyH_done (by kernel_rfl) ?_ _
            have g := hHeld.s.g_
            clear hHeld
            go_wp2_with fail
            go_ret
            exact ⟨rfl, g⟩

theorem lawDiffs_over (a : Option Addr) (n c : Nat) (w : World) (h : 1048576 < n) :
    Calls Try.prog 3 #[.slice a n c] w fun e w' => e = .returned (.bool true) ∧ Below w.heap.size w w' := by
  go_enter Try.func3, Try.ntmps3
  go_wp2_with fail
  refine (lwBig_big a n c _ h).mono ?_
  rintro e w0 ⟨rfl, h0⟩
  rw [h0]
  clear h0 w0
  go_wp2_with fail
  go_ret
  exact ⟨rfl, Below.refl _ _⟩

theorem lawDiffs_any (a : Option Addr) (n c : Nat) (zs : List Int) (w : World) (h : IsRow .u8 w a n c zs) :
    Calls Try.prog 3 #[.slice a n c] w fun e w' => e = .returned (.bool true) ∧ Below w.heap.size w w' := by
  obtain ⟨hn, _, hr, hz⟩ := isRow_reads h
  by_cases hs : 1048576 < n
  · exact lawDiffs_over a n c w hs
  · exact lawDiffs_fits a n c (zs.take n) w hr hn (by omega) hz

end Go.Proofs.Ytpoccjlngbdjlaa
