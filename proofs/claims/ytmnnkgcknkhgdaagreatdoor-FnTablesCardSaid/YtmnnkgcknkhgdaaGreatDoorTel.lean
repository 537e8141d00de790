/-
  tellFault, untellFault, entryFault, changedKey.
-/
import Derived.Test.YtmnnkgcknkhgdaaGreatDoorIxf
import Derived.Test.YtmnnkgcknkhgdaaGreatDoorKof
namespace Go.Proofs.YtmnnkgcknkhgdaaGreatDoor
open Go.RowKit
set_option linter.unusedVariables false

/-- Whether a row may tell a table. -/
def telB (r : Rw) : Bool := !inW r.k 1 3 || decide (r.v > 8) || !r.s.toList.isEmpty
def telQ (rs : List Rw) (r : Rw) : Int := if telB r = true then 10 else if rs.any (fun x => lngB x r.k r.v) = true then 8 else 0
def untQ (rs : List Rw) (r : Rw) : Int := if rs.any (fun x => decide (x.t = r.k)) = true then 8 else 0
def entQ (rs : List Rw) (r : Rw) : Int := if lonQ rs r.t ≠ 0 then lonQ rs r.t else if (r.s.size : Int) > lonV rs r.t then 10 else 0

set_option maxRecDepth 20000 in
set_option maxHeartbeats 4000000 in
theorem tellFault_any (a : Option Addr) (rs : List Rw) (n c : Nat) (xt xk xv : Int) (xs : ByteArray) (w : World) (hn : rs.length = n) (hm : n ≤ 60) (hs : ∀ r ∈ rs, r.s.size ≤ maxLen) (hr : Rs rwE 4 w a rs) :
    Calls Tryz.prog 25 #[.slice a n c, .agg #[.int .i64 xt, .int .i64 xk, .int .i64 xv, .string xs]] w fun e w' => e = .returned (.int .i64 (telQ rs ⟨xt, xk, xv, xs⟩)) ∧ Below w.heap.size w w' := by
  have gX : Below w.heap.size w (w.alloc (.cells #[.int .i64 xt, .int .i64 xk, .int .i64 xv, .string xs] 26)) := by go_grown
  have hcon := hasLonger_any a rs n c xk xv _ hn hm hs (hr.below gX (Nat.le_refl _))
  have hb := mayBeTold_any xk
  obtain ⟨p, hp⟩ : ∃ p, p = telB ⟨xt, xk, xv, xs⟩ := ⟨_, rfl⟩
  have HP : Hid (telB ⟨xt, xk, xv, xs⟩ = p) := hp.symm
  obtain ⟨y, hy⟩ : ∃ y, y = rs.any (fun x => lngB x xk xv) := ⟨_, rfl⟩
  have HY : Hid (rs.any (fun x => lngB x xk xv) = y) := hy.symm
  have HQ : Hid (telQ rs ⟨xt, xk, xv, xs⟩ = if p = true then 10 else if y = true then 8 else 0) := by show _ = _; unfold telQ; rw [HP.out, HY.out]
  rw [← hy] at hcon
  unfold telB at hp
  dsimp only at hp
  generalize inW xk 1 3 = x1 at hb hp
  clear hr hs hy
  cases x1
  · go_enter Tryz.func25, Tryz.ntmps25
    go_wp2_with fail
    refine (hb _).mono ?_
    rintro e w' ⟨rfl, rfl⟩
    go_wp2_with fail
    go_ret
    exact ⟨by rw [HQ.out, hp]; rfl, by go_grown⟩
  · by_cases h8 : xv > 8
    · go_enter Tryz.func25, Tryz.ntmps25
      go_wp2_with fail
      refine (hb _).mono ?_
      rintro e w' ⟨rfl, rfl⟩
      go_wp2_with fail
      go_ret
      exact ⟨by rw [HQ.out, hp]; simp [h8], by go_grown⟩
    · have h8' : decide (8 < xv) = false := by simpa using h8
      cases he : xs.toList.isEmpty
      · go_enter Tryz.func25, Tryz.ntmps25
        go_wp2_with fail
        refine (hb _).mono ?_
        rintro e w' ⟨rfl, rfl⟩
        go_wp2_with fail
        go_ret
        exact ⟨by rw [HQ.out, hp, he]; simp, by go_grown⟩
      · have hp2 : p = false := by rw [hp, he]; simp; omega
        clear hp
        subst hp2
        have HC : Hid (Calls Tryz.prog _ _ _ _) := hcon
        have HG : Hid (Below _ _ _) := gX
        clear HP HY h8 hcon hn hm gX
        cases y
        · go_enter Tryz.func25, Tryz.ntmps25
          go_wp2_with fail
          refine (hb _).mono ?_
          rintro e w' ⟨rfl, rfl⟩
          go_wp2_with fail
          refine HC.out.mono ?_
          rintro e w' ⟨rfl, g⟩
          have gg := HG.out.trans (g.mono HG.out.size)
          clear HC g
          go_wp2_with fail
          go_ret
          exact ⟨by rw [HQ.out]; rfl, gg⟩
        · go_enter Tryz.func25, Tryz.ntmps25
          go_wp2_with fail
          refine (hb _).mono ?_
          rintro e w' ⟨rfl, rfl⟩
          go_wp2_with fail
          refine HC.out.mono ?_
          rintro e w' ⟨rfl, g⟩
          have gg := HG.out.trans (g.mono HG.out.size)
          clear HC g
          go_wp2_with fail
          go_ret
          exact ⟨by rw [HQ.out]; rfl, gg⟩

set_option maxHeartbeats 1000000 in
theorem untellFault_any (a : Option Addr) (rs : List Rw) (n c : Nat) (xt xk xv : Int) (xs : ByteArray) (w : World) (hn : rs.length = n) (hm : n ≤ 60) (hs : ∀ r ∈ rs, r.s.size ≤ maxLen) (hr : Rs rwE 4 w a rs) :
    Calls Tryz.prog 26 #[.slice a n c, .agg #[.int .i64 xt, .int .i64 xk, .int .i64 xv, .string xs]] w fun e w' => e = .returned (.int .i64 (untQ rs ⟨xt, xk, xv, xs⟩)) ∧ Below w.heap.size w w' := by
  have gX : Below w.heap.size w (w.alloc (.cells #[.int .i64 xt, .int .i64 xk, .int .i64 xv, .string xs] 26)) := by go_grown
  have hcon := hasRows_any a rs n c xk _ hn hm hs (hr.below gX (Nat.le_refl _))
  obtain ⟨y, hy⟩ : ∃ y, y = rs.any (fun x => decide (x.t = xk)) := ⟨_, rfl⟩
  have HQ : Hid (untQ rs ⟨xt, xk, xv, xs⟩ = if y = true then 8 else 0) := by show _ = _; unfold untQ; rw [hy]
  rw [← hy] at hcon
  clear hr hs hy
  cases y
  · go_enter Tryz.func26, Tryz.ntmps26
    go_wp2_with fail
    refine hcon.mono ?_
    rintro e w' ⟨rfl, g⟩
    have gg := gX.trans (g.mono gX.size)
    clear hcon g
    go_wp2_with fail
    go_ret
    exact ⟨by rw [HQ.out]; rfl, gg⟩
  · go_enter Tryz.func26, Tryz.ntmps26
    go_wp2_with fail
    refine hcon.mono ?_
    rintro e w' ⟨rfl, g⟩
    have gg := gX.trans (g.mono gX.size)
    clear hcon g
    go_wp2_with fail
    go_ret
    exact ⟨by rw [HQ.out]; rfl, gg⟩

set_option maxRecDepth 20000 in
set_option maxHeartbeats 1000000 in
theorem entryFault_any (a : Option Addr) (rs : List Rw) (n c : Nat) (xt xk xv : Int) (xs : ByteArray) (w : World) (hn : rs.length = n) (hm : n ≤ 60) (hx : xs.size ≤ maxLen) (hr : Rs rwE 4 w a rs) (hE : Errs w) :
    Calls Tryz.prog 27 #[.slice a n c, .agg #[.int .i64 xt, .int .i64 xk, .int .i64 xv, .string xs]] w fun e w' => e = .returned (.int .i64 (entQ rs ⟨xt, xk, xv, xs⟩)) ∧ Below w.heap.size w w' := by
  have HE : Hid (∀ V, Below w.heap.size w V → Errs V) := fun V hV => hE.below hV
  have gX : Below w.heap.size w (w.alloc (.cells #[.int .i64 xt, .int .i64 xk, .int .i64 xv, .string xs] 26)) := by go_grown
  have hlX : w.heap.size < (w.alloc (.cells #[.int .i64 xt, .int .i64 xk, .int .i64 xv, .string xs] 26)).heap.size := by simp
  have C : RowC (w.alloc (.cells #[.int .i64 xt, .int .i64 xk, .int .i64 xv, .string xs] 26)) w.heap.size 0 ⟨xt, xk, xv, xs⟩ := ⟨by simp [go_sem], by simp [go_sem], by simp [go_sem], by simp [go_sem]⟩
  have hcon := longestText_any a rs n c xt _ hn hm (hr.below gX (Nat.le_refl _))
  obtain ⟨q, hq⟩ : ∃ q, q = lonQ rs xt := ⟨_, rfl⟩
  obtain ⟨l, hl⟩ : ∃ l, l = lonV rs xt := ⟨_, rfl⟩
  have HQ : Hid (entQ rs ⟨xt, xk, xv, xs⟩ = if q ≠ 0 then q else if (xs.size : Int) > l then 10 else 0) := by show _ = _; unfold entQ; rw [hq, hl]
  have HT : Hid (∀ V, Errs V → Calls Tryz.prog 33 #[lonE rs xt] V fun e w' => e = .returned (.int .i64 q) ∧ Below V.heap.size V w') := fun V hV => by rw [hq]; exact tableCode_any rs xt V hV
  rw [← hl] at hcon
  generalize lonE rs xt = er at hcon HT
  clear hr hE hq hl
  go_enter Tryz.func27, Tryz.ntmps27
  go_wp2_with fail
  refine hcon.mono ?_
  rintro e w1 ⟨rfl, g1⟩
  have C := C.below g1 hlX
  have hlX := Nat.lt_of_lt_of_le hlX g1.size
  have g := gX.trans (g1.mono gX.size)
  clear hcon g1 gX
  go_wp2_with fail
  refine (HT.out _ (HE.out _ g)).mono ?_
  rintro e w2 ⟨rfl, g2⟩
  have C := C.below g2 hlX
  have g := g.trans (g2.mono g.size)
  clear g2
  by_cases h0 : q = 0
  · subst h0
    obtain ⟨x0, x1, x2, x3⟩ := C
    dsimp only at x0 x1 x2 x3
    go_wp2_with fail
    refine (textLength_any xt xk xv xs _ hx).mono ?_
    rintro e w3 ⟨rfl, g3⟩
    have g := g.trans (g3.mono g.size)
    clear g3 x0 x1 x2 x3
    by_cases h1 : (xs.size : Int) > l
    · go_wp2_with fail
      go_ret
      exact ⟨by rw [HQ.out, if_neg (by simp), if_pos h1]; rfl, g⟩
    · go_wp2_with fail
      go_ret
      exact ⟨by rw [HQ.out, if_neg (by simp), if_neg (by omega)]; rfl, g⟩
  · have d : (q != 0) = true := by simpa using h0
    go_wp2_with fail
    go_ret
    exact ⟨by rw [HQ.out, if_pos h0]; rfl, g⟩

set_option maxRecDepth 20000 in
set_option maxHeartbeats 1000000 in
theorem changedKey_any (x : Chg) (w : World) : Calls Tryz.prog 24 #[.agg #[.bool x.was, .int .i64 x.b.t, .int .i64 x.b.k, .int .i64 x.b.v, .string x.b.s, .bool x.is, .int .i64 x.a.t, .int .i64 x.a.k, .int .i64 x.a.v, .string x.a.s]] w fun e w' => e = .returned (.agg #[.int .i64 (kT x), .int .i64 (kK x)]) ∧ Below w.heap.size w w' := by
  obtain ⟨x0, ⟨bt, bk, bv, bs⟩, x5, ⟨at', ak, av, sa⟩⟩ := x
  dsimp only
  cases x5
  · go_enter Tryz.func24, Tryz.ntmps24
    go_wp2_with fail
    refine (keyOf_any _ _ _ _ _).mono ?_
    rintro e w' ⟨rfl, g⟩
    have c0 := (g.cell (p := ⟨w.heap.size + 1, 0, none⟩) (by simp)).trans (show _ = some (Value.int .i64 0) by simp [go_sem])
    have c1 := (g.cell (p := ⟨w.heap.size + 1, 1, none⟩) (by simp)).trans (show _ = some (Value.int .i64 0) by simp [go_sem])
    have f0 := (g.frozen (p := ⟨w.heap.size + 1, 0, none⟩) (by simp)).trans (show _ = false by simp [go_sem])
    have f1 := (g.frozen (p := ⟨w.heap.size + 1, 1, none⟩) (by simp)).trans (show _ = false by simp [go_sem])
    have gg : Below w.heap.size w w' := Below.trans (by go_grown) (g.mono (by simp; omega))
    clear g
    go_wp2_with fail
    refine bodyPost_ret (v := .agg #[.int .i64 bt, .int .i64 bk]) (by simp [results, Tryz.results24, go_sem, *]) rfl ?_
    exact ⟨rfl, by go_grown⟩
  · go_enter Tryz.func24, Tryz.ntmps24
    go_wp2_with fail
    refine (keyOf_any _ _ _ _ _).mono ?_
    rintro e w' ⟨rfl, g⟩
    have c0 := (g.cell (p := ⟨w.heap.size + 1, 0, none⟩) (by simp)).trans (show _ = some (Value.int .i64 0) by simp [go_sem])
    have c1 := (g.cell (p := ⟨w.heap.size + 1, 1, none⟩) (by simp)).trans (show _ = some (Value.int .i64 0) by simp [go_sem])
    have f0 := (g.frozen (p := ⟨w.heap.size + 1, 0, none⟩) (by simp)).trans (show _ = false by simp [go_sem])
    have f1 := (g.frozen (p := ⟨w.heap.size + 1, 1, none⟩) (by simp)).trans (show _ = false by simp [go_sem])
    have gg : Below w.heap.size w w' := Below.trans (by go_grown) (g.mono (by simp; omega))
    clear g
    go_wp2_with fail
    refine bodyPost_ret (v := .agg #[.int .i64 at', .int .i64 ak]) (by simp [results, Tryz.results24, go_sem, *]) rfl ?_
    exact ⟨rfl, by go_grown⟩

end Go.Proofs.YtmnnkgcknkhgdaaGreatDoor

