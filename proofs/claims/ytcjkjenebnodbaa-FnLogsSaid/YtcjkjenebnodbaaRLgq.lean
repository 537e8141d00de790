/-
  What answers a log: the program's SyncLog.
-/
import Derived.Test.YtcjkjenebnodbaaRLft

namespace Go.Proofs.Ytcjkjenebnodbaa
open Go.RowKit
set_option linter.unusedVariables false

/-- A LogResult: the code q, and a log of new memory. -/
def LgPost (w : World) (q : Int) (us vs : List Int) (e : Ending) (w' : World) : Prop := ∃ p c r d mid, e = .returned (.agg #[.int .i64 q, .slice p us.length c, .slice r vs.length d]) ∧ us.length ≤ c ∧ vs.length ≤ d ∧ c ≤ 9223372036854775807 ∧ d ≤ 9223372036854775807 ∧ Below w.heap.size w w' ∧ LogIn w.heap.size mid w'.heap.size w' p r us vs

/-- The three cells of a LogResult that is not told yet. -/
structure A3 (w : World) (b : Nat) (V : World) : Prop where
  a0 : V.cell? ⟨b, 0, none⟩ = some (.int .i64 0)
  a1 : V.cell? ⟨b, 1, none⟩ = some (.slice none 0 0)
  a2 : V.cell? ⟨b, 2, none⟩ = some (.slice none 0 0)
  f0 : V.frozen? ⟨b, 0, none⟩ = false
  f1 : V.frozen? ⟨b, 1, none⟩ = false
  f2 : V.frozen? ⟨b, 2, none⟩ = false
  g : Below w.heap.size w V
theorem A3.up {w V W : World} {b : Nat} (h : A3 w b V) (hb : Below V.heap.size V W) : A3 w b W :=
  ⟨cellUp hb h.a0, cellUp hb h.a1, cellUp hb h.a2, (hb.frozen (World.block_lt_of_cell? V _ h.a0)).trans h.f0, (hb.frozen (World.block_lt_of_cell? V _ h.a1)).trans h.f1, (hb.frozen (World.block_lt_of_cell? V _ h.a2)).trans h.f2, h.g.trans (hb.mono h.g.size)⟩
theorem A3.lt {w V : World} {b : Nat} (h : A3 w b V) : b < V.heap.size := World.block_lt_of_cell? V _ h.a0

theorem LogIn.none_ (lo hi : Nat) (w : World) (p r : Option Addr) (h : lo ≤ hi) : LogIn lo lo hi w p r [] [] := ⟨.inl rfl, .inl rfl, Nat.le_refl _, h⟩
theorem LogIn.one {lo hi : Nat} {w : World} {p r : Option Addr} {us : List Int} (h : BytesIn lo hi w p us) (hl : lo ≤ hi) : LogIn lo hi hi w p r us [] := ⟨h, .inl rfl, hl, Nat.le_refl _⟩

/-- What SyncLog leaves Sure. -/
def syB (xs ys : List Int) : List Int := if lfQ xs ys = 0 then xs ++ ys else []

set_option maxHeartbeats 1000000 in
theorem implSyncLog_any (x y : Option Addr) (xs ys : List Int) (c d : Nat) (w : World) (hn1 : xs.length ≤ 1048576) (hm1 : ys.length ≤ 1048576) (hc : xs.length ≤ c) (hd : ys.length ≤ d) (hcm : c ≤ 9223372036854775807) (hdm : d ≤ 9223372036854775807) (hx : Reads w x xs) (hy : Reads w y ys) (hxb : ∀ z ∈ xs, 0 ≤ z ∧ z ≤ 255) (hyb : ∀ z ∈ ys, 0 ≤ z ∧ z ≤ 255) :
    Calls Try.prog 23 #[.agg #[.slice x xs.length c, .slice y ys.length d]] w fun e w' => LgPost w (lfQ xs ys) (syB xs ys) [] e w' := by
  have HL : Hid (∀ X, Below w.heap.size w X → Calls Try.prog 28 #[.agg #[.slice x xs.length c, .slice y ys.length d]] X fun e w' => e = .returned (.int .i64 (lfQ xs ys)) ∧ Below X.heap.size X w') := fun X g => implLogFault_any x y xs ys c d X hn1 hm1 hc hd hcm hdm (hx.below g (Nat.le_refl _)) (hy.below g (Nat.le_refl _)) hxb hyb
  have HC : Hid (∀ X b, Below w.heap.size w X → TwoAt X b x xs.length c y ys.length d → Calls Try.prog 78 #[.slice (some ⟨b, 0, none⟩) 2 2] X fun e w' => ∃ v, e = .returned v ∧ Below X.heap.size X w' ∧ Gb X.heap.size w' v (xs ++ ys)) := fun X b g r => concat_two b x y xs ys _ c _ d X rfl rfl (by omega) (by omega) (hx.below g (Nat.le_refl _)) (hy.below g (Nat.le_refl _)) r
  have HB : Hid (syB xs ys = if lfQ xs ys = 0 then xs ++ ys else []) := rfl
  clear hx hy hxb hyb hc hd
  generalize lfQ xs ys = q at HL HB ⊢
  generalize xs.length = n at HL HC hn1 ⊢
  generalize ys.length = m at HL HC hm1 ⊢
  go_enter Try.func23, Try.ntmps23
  go_upto_region 1 with (fail)
  generalize hY : World.alloc _ _ = Y
  have hA : A3 w (w.heap.size + 1) Y := by rw [← hY]; exact ⟨by simp [go_sem], by simp [go_sem], by simp [go_sem], by simp [go_sem], by simp [go_sem], by simp [go_sem], by go_grown⟩
  have r : LgAt Y w.heap.size x n c y m d := by rw [← hY]; exact ⟨by simp [go_sem], by simp [go_sem]⟩
  clear hY
  obtain ⟨r0, r1⟩ := r
  have r : LgAt Y w.heap.size x n c y m d := ⟨r0, r1⟩
  go_wp2_with fail
  refine (HL.out _ hA.g).mono ?_
  rintro e w1 ⟨rfl, g1⟩
  have hA := hA.up g1
  have r := r.up g1
  clear g1 r0 r1
  obtain ⟨r0, r1⟩ := r
  by_cases hq : q = 0
  · subst hq
    have HB2 : Hid (syB xs ys = xs ++ ys) := by show _ = _; rw [HB.out]; simp
    clear HB
    go_wp2_with fail
    refine (HC.out _ w1.heap.size (hA.g.trans (Below.mono (B := w1.heap.size) (by go_grown) hA.g.size)) ⟨by simp [go_sem], by simp [go_sem]⟩).mono ?_
    rintro e w3 ⟨v, rfl, g3, hG⟩
    have g3 : Below w1.heap.size w1 w3 := Below.trans (by go_grown) (g3.mono (by simp))
    have hlt := hA.lt
    have hA := hA.up g3
    obtain ⟨p, cp, rfl, hcp, hcm', hBy, _⟩ := hG.shape
    have hBy : BytesIn (w.heap.size + 2) w3.heap.size w3 p (xs ++ ys) := hBy.mono (by simp; omega) (Nat.le_refl _)
    have hg := hA.g
    obtain ⟨a0, a1, a2, f0, f1, f2, _⟩ := hA
    have HBy : Hid (BytesIn (w.heap.size + 2) w3.heap.size w3 p (xs ++ ys)) := hBy
    have hs : w.heap.size + 1 < w3.heap.size := World.block_lt_of_cell? w3 _ a0
    clear hBy hG g3 r0 r1 r
    generalize hk : (xs ++ ys).length = k at hcp ⊢
    have HK : Hid ((xs ++ ys).length = k) := hk
    clear hk
    go_wp2_with fail
    refine bodyPost_ret (v := .agg #[.int .i64 0, .slice p k cp, .slice none 0 0]) (by simp [results, Try.results23, go_sem, *]) rfl ?_
    rw [HB2.out]
    refine ⟨p, cp, none, 0, w3.heap.size, by rw [HK.out]; rfl, by rw [HK.out]; exact hcp, Nat.le_refl _, hcm', by omega, by go_grown, ?_⟩
    have T : Turned (w.heap.size + 1) (w.heap.size + 2) w3 _ := (((Turned.refl _ _ w3).setCell (p := ⟨w.heap.size + 1, 0, none⟩) (by simp) (by simp) (.int .i64 0)).setCell (p := ⟨w.heap.size + 1, 1, none⟩) (by simp) (by simp) (.slice p k cp)).setCell (p := ⟨w.heap.size + 1, 2, none⟩) (by simp) (by simp) (.slice none 0 0)
    exact ⟨(HBy.out.turned T (.inr (Nat.le_refl _))).mono (by omega) (Nat.le_refl _), .inl rfl, by omega, by simp⟩
  · have HB : Hid (syB xs ys = []) := by show _ = _; rw [HB.out, if_neg hq]
    have hg := hA.g
    have hs := hA.lt
    obtain ⟨a0, a1, a2, f0, f1, f2, _⟩ := hA
    go_wp2_with fail
    refine bodyPost_ret (v := .agg #[.int .i64 q, .slice none 0 0, .slice none 0 0]) (by simp [results, Try.results23, go_sem, *]) rfl ?_
    rw [HB.out]
    exact ⟨none, 0, none, 0, w.heap.size, rfl, Nat.le_refl _, Nat.le_refl _, by omega, by omega, by go_grown, LogIn.none_ _ _ _ _ _ (by simp; omega)⟩

end Go.Proofs.Ytcjkjenebnodbaa

/-
  The model's SyncLog.
-/
namespace Go.Proofs.Ytcjkjenebnodbaa
open Go.RowKit
set_option linter.unusedVariables false

/-- A log of new memory, handed back. -/
def LvPost (w : World) (us vs : List Int) (e : Ending) (w' : World) : Prop := ∃ p c r d mid, e = .returned (.agg #[.slice p us.length c, .slice r vs.length d]) ∧ us.length ≤ c ∧ vs.length ≤ d ∧ c ≤ 9223372036854775807 ∧ d ≤ 9223372036854775807 ∧ Below w.heap.size w w' ∧ LogIn w.heap.size mid w'.heap.size w' p r us vs

/-- The two cells of a log that is not told yet. -/
structure A2 (w : World) (b : Nat) (V : World) : Prop where
  a0 : V.cell? ⟨b, 0, none⟩ = some (.slice none 0 0)
  a1 : V.cell? ⟨b, 1, none⟩ = some (.slice none 0 0)
  f0 : V.frozen? ⟨b, 0, none⟩ = false
  f1 : V.frozen? ⟨b, 1, none⟩ = false
  g : Below w.heap.size w V
theorem A2.up {w V W : World} {b : Nat} (h : A2 w b V) (hb : Below V.heap.size V W) : A2 w b W :=
  ⟨cellUp hb h.a0, cellUp hb h.a1, (hb.frozen (World.block_lt_of_cell? V _ h.a0)).trans h.f0, (hb.frozen (World.block_lt_of_cell? V _ h.a1)).trans h.f1, h.g.trans (hb.mono h.g.size)⟩
theorem A2.lt {w V : World} {b : Nat} (h : A2 w b V) : b < V.heap.size := World.block_lt_of_cell? V _ h.a0

structure SyS (w : World) (x y : Option Addr) (n c m d : Nat) (V : World) : Prop where
  r : LgAt V w.heap.size x n c y m d
  a : A2 w (w.heap.size + 1) V
theorem SyS.up {w : World} {x y : Option Addr} {n c m d : Nat} {V W : World} (h : SyS w x y n c m d V) (hb : Below V.heap.size V W) : SyS w x y n c m d W := ⟨h.r.up hb, h.a.up hb⟩

set_option maxHeartbeats 1000000 in
theorem l5Sync_any (x y : Option Addr) (xs ys : List Int) (n c m d : Nat) (w : World) (hn : xs.length = n) (hm : ys.length = m) (hn1 : n ≤ 1048576) (hm1 : m ≤ 1048576) (hx : Reads w x xs) (hy : Reads w y ys) :
    Calls Try.prog 106 #[.agg #[.slice x n c, .slice y m d]] w fun e w' => LvPost w (xs ++ ys) [] e w' := by
  have HCp : Hid (∀ X, Below w.heap.size w X → Calls Try.prog 119 #[.slice x n c] X fun e w' => ∃ v, e = .returned v ∧ Below X.heap.size X w' ∧ Gb X.heap.size w' v xs) := fun X g => l2Copy_gen x xs n c X hn (by omega) (hx.below g (Nat.le_refl _))
  have HYr : Hid (∀ X, Below w.heap.size w X → Reads X y ys) := fun X g => hy.below g (Nat.le_refl _)
  have HN : Hid (xs.length = n) := hn
  have HM : Hid (ys.length = m) := hm
  clear hx hy hn hm
  go_enter Try.func106, Try.ntmps106
  go_upto_region 1 with (fail)
  generalize hY : World.alloc _ _ = Y
  have hD : SyS w x y n c m d Y := by rw [← hY]; exact ⟨⟨by simp [go_sem], by simp [go_sem]⟩, ⟨by simp [go_sem], by simp [go_sem], by simp [go_sem], by simp [go_sem], by go_grown⟩⟩
  clear hY
  refine wp_region_held_drew (S := fun V => LgAt V w.heap.size x n c y m d) (by kernel_rfl) (hD.up (Below.refl _ _).drew).r (fun hHeld => ?_)
  have hA := (hD.up (Below.refl _ _).drew).a
  generalize Y.drew = D at hHeld hA ⊢
  clear hD
  have hD := hHeld
  refine wpAnyH_take (i := 0) (v := ?v1) rfl (by kernel_rfl) (by kernel_rfl) (by kernel_rfl) (fun _ _ _ h => h) (Or.inl ⟨by kernel_rfl, ?h1⟩) hHeld ?_
  case h1 => intro u hSw; (try dsimp only at hSw); go_simp; try with_reducible rfl
  try simp only [List.getElem_toArray]
  try simp only [List.getElem_cons_succ]
  try simp only [List.getElem_cons_zero]
  try simp only [Act.put]
  try simp only [List.setIfInBounds_toArray]
  try simp only [List.set]
  refine wpAnyH_take (i := 1) (v := ?v2) rfl (by kernel_rfl) (by kernel_rfl) (by kernel_rfl) (fun _ _ _ h => h) (Or.inl ⟨by kernel_rfl, ?h2⟩) hHeld ?_
  case h2 => intro u hSw; obtain ⟨q0, q1⟩ := hSw; go_simp; try with_reducible rfl
  try simp only [List.getElem_toArray]
  try simp only [List.getElem_cons_succ]
  try simp only [List.getElem_cons_zero]
  try simp only [Act.put]
  try simp only [List.setIfInBounds_toArray]
  try simp only [List.set]
  refine wpAnyH_take (i := 3) (v := ?v3) rfl (by kernel_rfl) (by kernel_rfl) (by kernel_rfl) (fun _ _ _ h => h) (Or.inl ⟨by kernel_rfl, ?h3⟩) hHeld ?_
  case h3 => intro u hSw; (try dsimp only at hSw); go_simp; try with_reducible rfl
  try simp only [List.getElem_toArray]
  try simp only [List.getElem_cons_succ]
  try simp only [List.getElem_cons_zero]
  try simp only [Act.put]
  try simp only [List.setIfInBounds_toArray]
  try simp only [List.set]
  refine wpAnyH_take (i := 4) (v := ?v4) rfl (by kernel_rfl) (by kernel_rfl) (by kernel_rfl) (fun _ _ _ h => h) (Or.inl ⟨by kernel_rfl, ?h4⟩) hHeld ?_
  case h4 => intro u hSw; obtain ⟨q0, q1⟩ := hSw; go_simp; try with_reducible rfl
  try simp only [List.getElem_toArray]
  try simp only [List.getElem_cons_succ]
  try simp only [List.getElem_cons_zero]
  try simp only [Act.put]
  try simp only [List.setIfInBounds_toArray]
  try simp only [List.set]
  refine wpAnyH_ready (rs := [2]) (by kernel_rfl) (by simp) ?_
  refine AllReadyH.cons rfl (fun K hK => ?_) AllReadyH.nil
  go_simp
  go_wp2_with (go_at_call 119; refine (HCp.out _ hA.g).mono ?_; rintro e w3 ⟨v3, rfl, g3, hG3⟩)
  refine hK.out _ _ (hD.up g3) (fun hHeld => ?_)
  clear hK K
  have hA3 := hA.up g3
  try simp only [Act.put]
  try simp only [List.setIfInBounds_toArray]
  try simp only [List.set]
  refine wpAnyH_ready (rs := [5]) (by kernel_rfl) (by simp) ?_
  refine AllReadyH.cons rfl (fun K hK => ?_) AllReadyH.nil
  rw [if_pos (by kernel_rfl)]
  refine wp_append_bytes _ _ _ rfl D.heap.size v3 xs ys y m d rfl rfl HM.out hG3 (HYr.out _ hA3.g) (by rw [HN.out, HM.out]; omega) g3.size ?_
  intro v4 w4 hG4 hgr4 hat4
  have g4 : Below D.heap.size D w4 := Below.grown g3 hgr4 g3.size (fun q e => (World.ownsRow.lt hG3 q e).1)
  obtain ⟨p, cp, rfl, hcp, hcm', hBy, _⟩ := hG4.shape
  have hA4 := hA.up g4
  generalize hk : (xs ++ ys).length = k at hcp ⊢
  have HK : Hid ((xs ++ ys).length = k) := hk
  clear hk
  refine hK.out _ _ (hD.up g4) (fun hHeld => ?_)
  clear hK K hgr4 hat4 hG3 hG4 g3
  try simp only [Act.put]
  try simp only [List.setIfInBounds_toArray]
  try simp only [List.set]
  refine wpAnyH_take (i := 6) (v := ?v5) rfl (by kernel_rfl) (by kernel_rfl) (by kernel_rfl) (fun _ _ _ h => h) (Or.inl ⟨by kernel_rfl, ?h5⟩) hHeld ?_
  case h5 => intro u hSw; (try dsimp only at hSw); go_simp; try with_reducible rfl
  try simp only [List.getElem_toArray]
  try simp only [List.getElem_cons_succ]
  try simp only [List.getElem_cons_zero]
  try simp only [Act.put]
  try simp only [List.setIfInBounds_toArray]
  try simp only [List.set]
  have hDs := hA.lt
  have hs4 := g4.size
  obtain ⟨a0, a1, f0, f1, hg⟩ := hA4
  have HBy : Hid (BytesIn (w.heap.size + 2) w4.heap.size w4 p (xs ++ ys)) := hBy.mono (by omega) (Nat.le_refl _)
  have T : Turned (w.heap.size + 1) (w.heap.size + 2) w4 ((w4.setCell ⟨w.heap.size + 1, 0, none⟩ (.slice p k cp)).setCell ⟨w.heap.size + 1, 1, none⟩ (.slice none 0 0)) := ((Turned.refl _ _ w4).setCell (p := ⟨w.heap.size + 1, 0, none⟩) (by simp) (by simp) _).setCell (p := ⟨w.heap.size + 1, 1, none⟩) (by simp) (by simp) _
  have HBz : Hid (BytesIn w.heap.size w4.heap.size ((w4.setCell ⟨w.heap.size + 1, 0, none⟩ (.slice p k cp)).setCell ⟨w.heap.size + 1, 1, none⟩ (.slice none 0 0)) p (xs ++ ys)) := (HBy.out.turned T (.inr (Nat.le_refl _))).mono (by omega) (Nat.le_refl _)
  refine wpAnyH_ready (rs := [7]) (by kernel_rfl) (by simp) ?_
  refine AllReadyH.cons rfl (fun K hK => ?_) AllReadyH.nil
  go_simp
  refine hK.out _ _ (hHeld.turned T (.inl (by omega))) (fun hHeld => ?_)
  clear hK K
  try simp only [Act.put]
  try simp only [List.setIfInBounds_toArray]
  try simp only [List.set]
  refine wpAnyH_done (by kernel_rfl) ?_ _
  clear hHeld hD
  go_wp2_with fail
  refine bodyPost_ret (v := .agg #[.slice p k cp, .slice none 0 0]) (by simp [results, Try.results106, go_sem, *]) rfl ?_
  exact ⟨p, cp, none, 0, w4.heap.size, by rw [HK.out]; rfl, by rw [HK.out]; exact hcp, Nat.le_refl _, hcm', by omega, by go_grown, ⟨HBz.out, .inl rfl, by omega, by simp⟩⟩

set_option maxHeartbeats 1000000 in
theorem specSyncLog_any (x y : Option Addr) (xs ys : List Int) (c d : Nat) (w : World) (hn1 : xs.length ≤ 1048576) (hm1 : ys.length ≤ 1048576) (hc : xs.length ≤ c) (hd : ys.length ≤ d) (hcm : c ≤ 9223372036854775807) (hdm : d ≤ 9223372036854775807) (hx : Reads w x xs) (hy : Reads w y ys) (hxb : ∀ z ∈ xs, 0 ≤ z ∧ z ≤ 255) (hyb : ∀ z ∈ ys, 0 ≤ z ∧ z ≤ 255) :
    Calls Try.prog 61 #[.agg #[.slice x xs.length c, .slice y ys.length d]] w fun e w' => LgPost w (lfQ xs ys) (syB xs ys) [] e w' := by
  have HL : Hid (∀ X, Below w.heap.size w X → LgAt X w.heap.size x xs.length c y ys.length d → Calls Try.prog 79 #[.pointer (some ⟨w.heap.size, 0, none⟩)] X fun e w' => e = .returned (.int .i64 (lfQ xs ys)) ∧ Below X.heap.size X w') := fun X g r => l5Fault_any w.heap.size x y xs ys c d X hn1 hm1 hc hd hcm hdm (hx.below g (Nat.le_refl _)) (hy.below g (Nat.le_refl _)) hxb hyb r
  have HC : Hid (∀ X, Below w.heap.size w X → Calls Try.prog 106 #[.agg #[.slice x xs.length c, .slice y ys.length d]] X fun e w' => LvPost X (xs ++ ys) [] e w') := fun X g => l5Sync_any x y xs ys _ c _ d X rfl rfl hn1 hm1 (hx.below g (Nat.le_refl _)) (hy.below g (Nat.le_refl _))
  have HB : Hid (syB xs ys = if lfQ xs ys = 0 then xs ++ ys else []) := rfl
  clear hx hy hxb hyb hc hd
  generalize lfQ xs ys = q at HL HB ⊢
  generalize xs.length = n at HL HC hn1 ⊢
  generalize ys.length = m at HL HC hm1 ⊢
  go_enter Try.func61, Try.ntmps61
  go_upto_region 1 with (fail)
  generalize hY : World.alloc _ _ = Y
  have hA : A3 w (w.heap.size + 1) Y := by rw [← hY]; exact ⟨by simp [go_sem], by simp [go_sem], by simp [go_sem], by simp [go_sem], by simp [go_sem], by simp [go_sem], by go_grown⟩
  have r : LgAt Y w.heap.size x n c y m d := by rw [← hY]; exact ⟨by simp [go_sem], by simp [go_sem]⟩
  clear hY
  go_wp2_with fail
  refine (HL.out _ hA.g r).mono ?_
  rintro e w1 ⟨rfl, g1⟩
  have hA := hA.up g1
  have r := r.up g1
  clear g1
  obtain ⟨r0, r1⟩ := r
  by_cases hq : q = 0
  · subst hq
    have HB2 : Hid (syB xs ys = xs ++ ys) := by show _ = _; rw [HB.out]; simp
    clear HB
    go_wp2_with fail
    refine (HC.out _ hA.g).mono ?_
    intro e w3 hp
    obtain ⟨p, cp, rr, dr, mid, rfl, hcp, hdr, hcm', hdm', g3, hG⟩ := hp
    have hlt := hA.lt
    have hA := hA.up g3
    have HG : Hid (LogIn (w.heap.size + 2) mid w3.heap.size w3 p rr (xs ++ ys) []) := hG.mono (by omega) (Nat.le_refl _)
    have hg := hA.g
    obtain ⟨a0, a1, a2, f0, f1, f2, _⟩ := hA
    have hs : w.heap.size + 1 < w3.heap.size := World.block_lt_of_cell? w3 _ a0
    clear hG g3 r0 r1
    generalize hk : (xs ++ ys).length = k at hcp ⊢
    have HK : Hid ((xs ++ ys).length = k) := hk
    clear hk
    go_wp2_with fail
    refine bodyPost_ret (v := .agg #[.int .i64 0, .slice p k cp, .slice rr 0 dr]) (by simp [results, Try.results61, go_sem, *]) rfl ?_
    rw [HB2.out]
    refine ⟨p, cp, rr, dr, mid, by rw [HK.out]; rfl, by rw [HK.out]; exact hcp, hdr, hcm', hdm', by go_grown, ?_⟩
    have T : Turned (w.heap.size + 1) (w.heap.size + 2) w3 _ := (((Turned.refl _ _ w3).setCell (p := ⟨w.heap.size + 1, 0, none⟩) (by simp) (by simp) (.int .i64 0)).setCell (p := ⟨w.heap.size + 1, 1, none⟩) (by simp) (by simp) (.slice p k cp)).setCell (p := ⟨w.heap.size + 1, 2, none⟩) (by simp) (by simp) (.slice rr 0 dr)
    exact (HG.out.turned T (.inr (Nat.le_refl _))).mono (by omega) (by simp)
  · have HB : Hid (syB xs ys = []) := by show _ = _; rw [HB.out, if_neg hq]
    have hg := hA.g
    have hs := hA.lt
    obtain ⟨a0, a1, a2, f0, f1, f2, _⟩ := hA
    go_wp2_with fail
    refine bodyPost_ret (v := .agg #[.int .i64 q, .slice none 0 0, .slice none 0 0]) (by simp [results, Try.results61, go_sem, *]) rfl ?_
    rw [HB.out]
    exact ⟨none, 0, none, 0, w.heap.size, rfl, Nat.le_refl _, Nat.le_refl _, by omega, by omega, by go_grown, LogIn.none_ _ _ _ _ _ (by simp; omega)⟩

end Go.Proofs.Ytcjkjenebnodbaa
