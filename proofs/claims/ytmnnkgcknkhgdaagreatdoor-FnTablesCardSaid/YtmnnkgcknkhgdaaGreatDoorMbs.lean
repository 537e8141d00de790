/-
  The model's l8May and MayBe.
-/
import Derived.Test.YtmnnkgcknkhgdaaGreatDoorCat
namespace Go.Proofs.YtmnnkgcknkhgdaaGreatDoor
open Go.RowKit
set_option linter.unusedVariables false

/-- What l8May tells. -/
def mayM (rs : List Rw) (x : Chg) : Int := if kT x = 0 then catQ rs x else if x.is = true then (if l8L rs (kT x) < 0 then 4 else if (x.a.s.size : Int) > l8L rs (kT x) then 10 else 0) else 0

theorem rwF_rng {r : Rw} (h : rwF r = 0) : rngB r.t r.k r.v = true := by
  unfold rwF faultI at h
  split at h
  · rename_i hb; exact hb
  · exact absurd h (by decide)
theorem any_congr' {rs : List Rw} {f g : Rw → Bool} (h : ∀ r, f r = g r) : rs.any f = rs.any g := by rw [show f = g from funext h]

theorem mayM_eq {rs : List Rw} {x : Chg} (hq : rowsQ rs = 0) (hc : chQ x = 0) : mayM rs x = mbF rs x := by
  obtain ⟨x0, b, x5, a⟩ := x
  unfold mayM mbF
  cases x5
  · have hb : rwF b = 0 := by
      unfold chQ at hc
      cases x0 <;> simp at hc ⊢
      by_cases h : rwF b = 0
      · exact h
      · exact hc h
    have hr := rng_val (rwF_rng hb)
    by_cases h0 : kT ⟨x0, b, false, a⟩ = 0
    · rw [if_pos h0, if_pos h0]
      unfold catQ catT untQ
      have e : rs.any (catB ⟨x0, b, false, a⟩) = rs.any (fun x => decide (x.t = b.k)) := any_congr' fun r => by
        unfold catB
        have : kK ⟨x0, b, false, a⟩ = b.k := rfl
        rw [this]
        by_cases h : r.t = b.k
        · simp [h]; omega
        · simp [h]
      rw [e]
      simp
    · rw [if_neg h0, if_neg h0]
      simp
  · have ha : rwF a = 0 := by
      unfold chQ at hc
      cases x0
      · simp at hc; exact hc
      · simp at hc
        split at hc
        · exact absurd hc (by decide)
        · split at hc
          · exact hc
          · rename_i h; exact absurd hc h
    have hr := rng_val (rwF_rng ha)
    by_cases h0 : kT ⟨x0, b, true, a⟩ = 0
    · rw [if_pos h0, if_pos h0, if_pos rfl]
      unfold catQ telQ
      have e : rs.any (catB ⟨x0, b, true, a⟩) = rs.any (fun x => lngB x a.k a.v) := any_congr' fun r => by
        unfold catB lngB
        have : kK ⟨x0, b, true, a⟩ = a.k := rfl
        rw [this]
        by_cases h : r.t = a.k
        · have h2 : r.t ≠ 0 := by omega
          simp [h, show a.k ≠ 0 by omega]
        · simp [h]
      have e2 : catT ⟨x0, b, true, a⟩ = telB a := by unfold catT telB; simp [kK]
      rw [e, e2]
    · rw [if_neg h0, if_neg h0, if_pos rfl, if_pos rfl]
      have et : kT ⟨x0, b, true, a⟩ = a.t := rfl
      rw [et] at h0 ⊢
      have hin : inW a.t 1 3 = true := by unfold inW; simp; omega
      unfold entQ l8L lonQ lonV
      rw [if_pos hin, if_pos hin]
      cases hf : lonF rs a.t with
      | none => simp
      | some v =>
        have := (lonF_val hq hf).1
        have h1 : ¬ v < 0 := by omega
        simp [h1]

set_option maxRecDepth 20000 in
set_option maxHeartbeats 4000000 in
theorem l8May_any (a : Option Addr) (rs : List Rw) (n c b : Nat) (x : Chg) (w : World) (hn : rs.length = n) (hm : n ≤ 60) (hu : Uniq rs) (hs : ∀ r ∈ rs, r.s.size ≤ maxLen) (ha : x.a.s.size ≤ maxLen) (hr : Rs rwE 4 w a rs) (h : ChC w b 0 x) :
    Calls Tryz.prog 30 #[.slice a n c, .pointer (some ⟨b, 0, none⟩)] w fun e w' => e = .returned (.int .i64 (mayM rs x)) ∧ Below w.heap.size w w' := by
  have HN : Hid (rs.length = n) := hn
  have HS : Hid (∀ r ∈ rs, r.s.size ≤ maxLen) := hs
  have HU : Hid (Uniq rs) := hu
  have HR : Hid (∀ W, Below w.heap.size w W → Rs rwE 4 W a rs) := fun W hW => hr.below hW (Nat.le_refl _)
  have HC : Hid (∀ W, Below w.heap.size w W → ChC W b 0 x) := fun W hW => h.below hW h.lt
  have hk := l6Key_any b 0 x w h
  obtain ⟨t, ht⟩ : ∃ t, t = kT x := ⟨_, rfl⟩
  have HT : Hid (kT x = t) := ht.symm
  rw [← ht] at hk
  generalize kK x = kk at hk
  clear hn hr hs hu h ht
  go_enter Tryz.func30, Tryz.ntmps30
  go_wp2_with fail
  refine hk.mono ?_
  rintro e w1 ⟨rfl, m, hw1⟩
  have g1 : Below w.heap.size w w1 := by rw [hw1]; exact ⟨rfl, rfl, rfl, Nat.le_refl _, fun _ _ => rfl⟩
  clear hw1 hk
  by_cases h0 : t = 0
  · subst h0
    have HM : Hid (mayM rs x = catQ rs x) := by show _ = _; unfold mayM; rw [if_pos HT.out]
    go_wp2_with fail
    refine (l8Catalog_any a rs n c b x _ HN.out hm HS.out ha (HR.out _ g1) (HC.out _ g1)).mono ?_
    rintro e w2 ⟨rfl, g2⟩
    have g := g1.trans (g2.mono g1.size)
    clear g2
    go_wp2_with fail
    go_ret
    exact ⟨by rw [HM.out]; rfl, g⟩
  · have hd : (t == 0) = false := by simpa using h0
    have hC := HC.out _ g1
    obtain ⟨x0, ⟨bt, bk, bv, bs⟩, x5, ⟨at', ak, av, sa⟩⟩ := x
    obtain ⟨z0, z1, z2, z3, z4, z5, z6, z7, z8, z9⟩ := hC
    dsimp only at ha z0 z1 z2 z3 z4 z5 z6 z7 z8 z9
    cases x5
    · have HM : Hid (mayM rs ⟨x0, ⟨bt, bk, bv, bs⟩, false, ⟨at', ak, av, sa⟩⟩ = 0) := by show _ = _; unfold mayM; rw [if_neg (by rw [HT.out]; exact h0)]; rfl
      go_wp2_with fail
      go_ret
      exact ⟨by rw [HM.out]; rfl, g1⟩
    · obtain ⟨z, hz⟩ : ∃ z, z = l8L rs t := ⟨_, rfl⟩
      have HM : Hid (mayM rs ⟨x0, ⟨bt, bk, bv, bs⟩, true, ⟨at', ak, av, sa⟩⟩ = if z < 0 then 4 else if (sa.size : Int) > z then 10 else 0) := by show _ = _; unfold mayM; rw [if_neg (by rw [HT.out]; exact h0), if_pos rfl, HT.out, hz]
      have hcon := l8Longest_any a rs n c t w1 HN.out hm HU.out (HR.out _ g1)
      rw [← hz] at hcon
      clear hz
      go_wp2_with fail
      refine hcon.mono ?_
      rintro e w' ⟨rfl, hw⟩
      rw [hw]
      clear hw w' hcon
      by_cases h1 : z < 0
      · go_wp2_with fail
        go_ret
        exact ⟨by rw [HM.out, if_pos h1]; rfl, g1⟩
      · by_cases h2 : z < (sa.size : Int)
        · go_wp2_with fail
          go_ret
          exact ⟨by rw [HM.out, if_neg (by omega), if_pos h2]; rfl, g1⟩
        · go_wp2_with fail
          go_ret
          exact ⟨by rw [HM.out, if_neg (by omega), if_neg (by omega)]; rfl, g1⟩

set_option maxRecDepth 20000 in
set_option maxHeartbeats 4000000 in
theorem specMayBe_any (a : Option Addr) (rs : List Rw) (n c : Nat) (x0 : Bool) (bt bk bv : Int) (bs : ByteArray) (x5 : Bool) (at' ak av : Int) (sa : ByteArray) (w : World) (hn : rs.length = n) (hm : n ≤ 9223372036854775807) (hs : ∀ r ∈ rs, r.s.size ≤ maxLen) (hb : bs.size ≤ maxLen) (ha : sa.size ≤ maxLen) (hr : Rs rwE 4 w a rs) :
    Calls Tryz.prog 7 #[.slice a n c, .agg #[.bool x0, .int .i64 bt, .int .i64 bk, .int .i64 bv, .string bs, .bool x5, .int .i64 at', .int .i64 ak, .int .i64 av, .string sa]] w fun e w' => e = .returned (.int .i64 (mbQ rs ⟨x0, ⟨bt, bk, bv, bs⟩, x5, ⟨at', ak, av, sa⟩⟩)) ∧ Below w.heap.size w w' := by
  have HN : Hid (rs.length = n) := hn
  have HR : Hid (∀ W, Below w.heap.size w W → Rs rwE 4 W a rs) := fun W hW => hr.below hW (Nat.le_refl _)
  have HS : Hid (∀ r ∈ rs, r.s.size ≤ maxLen) := hs
  obtain ⟨q1, hq1⟩ : ∃ q, q = rowsQ rs := ⟨_, rfl⟩
  have HQ1 : Hid (rowsQ rs = q1) := hq1.symm
  obtain ⟨x, hx⟩ : ∃ x : Chg, x = ⟨x0, ⟨bt, bk, bv, bs⟩, x5, ⟨at', ak, av, sa⟩⟩ := ⟨_, rfl⟩
  obtain ⟨q2, hq2⟩ : ∃ q, q = chQ x := ⟨_, rfl⟩
  have HQ2 : Hid (chQ x = q2) := hq2.symm
  have HB : Hid (x.b.s.size ≤ maxLen) := by show _ ≤ _; rw [hx]; exact hb
  have HA : Hid (x.a.s.size ≤ maxLen) := by show _ ≤ _; rw [hx]; exact ha
  have HO : Hid (mbQ rs x = if orI q1 q2 = 0 then mbF rs x else orI q1 q2) := by show _ = _; unfold mbQ; rw [HQ1.out, HQ2.out]
  have H : ∀ Y, w.alloc (.cells #[.bool x0, .int .i64 bt, .int .i64 bk, .int .i64 bv, .string bs, .bool x5, .int .i64 at', .int .i64 ak, .int .i64 av, .string sa] 28) = Y → ChC Y w.heap.size 0 x ∧ Below w.heap.size w Y := by
    rintro Y rfl
    rw [hx]
    exact ⟨⟨by simp [go_sem], by simp [go_sem], by simp [go_sem], by simp [go_sem], by simp [go_sem], by simp [go_sem], by simp [go_sem], by simp [go_sem], by simp [go_sem], by simp [go_sem]⟩, by go_grown⟩
  rw [← hx]
  clear hn hr hs hq1 hq2 hx hb ha
  go_enter Tryz.func7, Tryz.ntmps7
  go_upto_region 1 with (fail)
  generalize hY : World.alloc _ _ = Y
  obtain ⟨C, g⟩ := H Y hY
  clear hY H
  go_wp2_with fail
  refine (l6Rows_any a rs n c _ HN.out hm HS.out (HR.out _ g)).mono ?_
  rintro e w1 ⟨rfl, g1⟩
  rw [HQ1.out]
  have C := C.below g1 C.lt
  have g := g.trans (g1.mono g.size)
  clear g1
  by_cases h1 : q1 = 0
  · subst h1
    have hn60 : n ≤ 60 := by rw [← HN.out]; exact (rowsQ_ok HQ1.out).1
    go_wp2_with fail
    refine (l6Change_any _ 0 x _ C HB.out HA.out).mono ?_
    rintro e w2 ⟨rfl, m, hw2⟩
    rw [HQ2.out]
    have g2 : Below w1.heap.size w1 w2 := by rw [hw2]; exact ⟨rfl, rfl, rfl, Nat.le_refl _, fun _ _ => rfl⟩
    have C := C.below g2 C.lt
    have g := g.trans (g2.mono g.size)
    clear g2 hw2
    by_cases h2 : q2 = 0
    · subst h2
      have HM : Hid (mbQ rs x = mayM rs x) := by show _ = _; rw [HO.out, mayM_eq HQ1.out HQ2.out]; rfl
      go_wp2_with fail
      refine (l8May_any a rs n c _ x _ HN.out hn60 (rowsQ_ok HQ1.out).2.1 HS.out HA.out (HR.out _ g) C).mono ?_
      rintro e w3 ⟨rfl, g3⟩
      have g := g.trans (g3.mono g.size)
      clear g3
      go_wp2_with fail
      go_ret
      exact ⟨by rw [HM.out]; rfl, g⟩
    · have d : (q2 != 0) = true := by simpa using h2
      have HM : Hid (mbQ rs x = q2) := by show _ = _; rw [HO.out]; have e : orI 0 q2 = q2 := rfl; rw [e, if_neg h2]
      go_wp2_with fail
      go_ret
      exact ⟨by rw [HM.out]; rfl, g⟩
  · have d : (q1 != 0) = true := by simpa using h1
    have HM : Hid (mbQ rs x = q1) := by show _ = _; rw [HO.out]; have e : orI q1 q2 = q1 := by unfold orI; rw [if_neg h1]
                                        rw [e, if_neg h1]
    go_wp2_with fail
    go_ret
    exact ⟨by rw [HM.out]; rfl, g⟩

end Go.Proofs.YtmnnkgcknkhgdaaGreatDoor

