/-
  The model's l8May and MayBe.
-/
import Derived.Test.YtpjlpnaamkbicaaGreatDoorCKCat

namespace Go.Proofs.YtpjlpnaamkbicaaGreatDoor
open Go.RowKit
set_option linter.unusedVariables false

/-- What l8May tells. -/
def mayM (rs : List Rw) (x : Chg) : Int := if kT x = 0 then catQ rs x else if x.is = true then (if l8L rs (kT x) < 0 then 4 else if (x.a.s.size : Int) > l8L rs (kT x) then 10 else 0) else 0

theorem rwF_rng {r : Rw} (h : rwF r = 0) : rngB r.t r.k r.v = true := by
  unfold rwF faultI at h
  split at h
  · rename_i hb; exact hb
  · exact absurd h (by decide)
theorem any_congr' {rs : List Rw} {f g : Rw → Bool} (h : ∀ r, f r = g r) : rs.any f = rs.any g := by rw [show f = g from funext h]

theorem mayM_eq {rs : List Rw} {x : Chg} (hq : rowsQ rs = 0) (hc : chQ x = 0) : mayM rs x = mbF rs x := by
  obtain ⟨x0, b, x5, a⟩ := x
  unfold mayM mbF
  cases x5
  · have hb : rwF b = 0 := by
      unfold chQ at hc
      cases x0 <;> simp at hc ⊢
      by_cases h : rwF b = 0
      · exact h
      · exact hc h
    have hr := rng_val (rwF_rng hb)
    by_cases h0 : kT ⟨x0, b, false, a⟩ = 0
    · rw [if_pos h0, if_pos h0]
      unfold catQ catT untQ
      have e : rs.any (catB ⟨x0, b, false, a⟩) = rs.any (fun x => decide (x.t = b.k)) := any_congr' fun r => by
        unfold catB
        have : kK ⟨x0, b, false, a⟩ = b.k := rfl
        rw [this]
        by_cases h : r.t = b.k
        · simp [h]; omega
        · simp [h]
      rw [e]
      simp
    · rw [if_neg h0, if_neg h0]
      simp
  · have ha : rwF a = 0 := by
      unfold chQ at hc
      cases x0
      · simp at hc; exact hc
      · simp at hc
        split at hc
        · exact absurd hc (by decide)
        · split at hc
          · exact hc
          · rename_i h; exact absurd hc h
    have hr := rng_val (rwF_rng ha)
    by_cases h0 : kT ⟨x0, b, true, a⟩ = 0
    · rw [if_pos h0, if_pos h0, if_pos rfl]
      unfold catQ telQ
      have e : rs.any (catB ⟨x0, b, true, a⟩) = rs.any (fun x => lngB x a.k a.v) := any_congr' fun r => by
        unfold catB lngB
        have : kK ⟨x0, b, true, a⟩ = a.k := rfl
        rw [this]
        by_cases h : r.t = a.k
        · have h2 : r.t ≠ 0 := by omega
          simp [h, show a.k ≠ 0 by omega]
        · simp [h]
      have e2 : catT ⟨x0, b, true, a⟩ = telB a := by unfold catT telB; simp [kK]
      rw [e, e2]
    · rw [if_neg h0, if_neg h0, if_pos rfl, if_pos rfl]
      have et : kT ⟨x0, b, true, a⟩ = a.t := rfl
      rw [et] at h0 ⊢
      have hin : inW a.t 1 3 = true := by unfold inW; simp; omega
      unfold entQ l8L lonQ lonV
      rw [if_pos hin, if_pos hin]
      cases hf : lonF rs a.t with
      | none => simp
      | some v =>
        have := (lonF_val hq hf).1
        have h1 : ¬ v < 0 := by omega
        simp [h1]

set_option maxRecDepth 20000 in
set_option maxHeartbeats 4000000 in
theorem l8May_any (a : Option Addr) (rs : List Rw) (n c b : Nat) (x : Chg) (w : World) (hn : rs.length = n) (hm : n ≤ 60) (hu : Uniq rs) (hs : ∀ r ∈ rs, r.s.size ≤ maxLen) (ha : x.a.s.size ≤ maxLen) (hr : Rs rwE 4 w a rs) (h : ChC w b 0 x) :
    Calls Tryz.prog 81 #[.slice a n c, .pointer (some ⟨b, 0, none⟩)] w fun e w' => e = .returned (.int .i64 (mayM rs x)) ∧ Below w.heap.size w w' := by
  have HN : Hid (rs.length = n) := hn
  have HS : Hid (∀ r ∈ rs, r.s.size ≤ maxLen) := hs
  have HU : Hid (Uniq rs) := hu
  have HR : Hid (∀ W, Below w.heap.size w W → Rs rwE 4 W a rs) := fun W hW => hr.below hW (Nat.le_refl _)
  have HC : Hid (∀ W, Below w.heap.size w W → ChC W b 0 x) := fun W hW => h.below hW h.lt
  have hk := l6Key_any b 0 x w h
  obtain ⟨t, ht⟩ : ∃ t, t = kT x := ⟨_, rfl⟩
  have HT : Hid (kT x = t) := ht.symm
  rw [← ht] at hk
  generalize kK x = kk at hk
  clear hn hr hs hu h ht
  go_enter Tryz.func81, Tryz.ntmps81
  go_wp2_with fail
  refine hk.mono ?_
  rintro e w1 ⟨rfl, m, hw1⟩
  have g1 : Below w.heap.size w w1 := by rw [hw1]; exact ⟨rfl, rfl, rfl, Nat.le_refl _, fun _ _ => rfl⟩
  clear hw1 hk
  by_cases h0 : t = 0
  · subst h0
    have HM : Hid (mayM rs x = catQ rs x) := by show _ = _; unfold mayM; rw [if_pos HT.out]
    go_wp2_with fail
    refine (l8Catalog_any a rs n c b x _ HN.out hm HS.out ha (HR.out _ g1) (HC.out _ g1)).mono ?_
    rintro e w2 ⟨rfl, g2⟩
    have g := g1.trans (g2.mono g1.size)
    clear g2
    go_wp2_with fail
    go_ret
    exact ⟨by rw [HM.out]; rfl, g⟩
  · have hd : (t == 0) = false := by simpa using h0
    have hC := HC.out _ g1
    obtain ⟨x0, ⟨bt, bk, bv, bs⟩, x5, ⟨at', ak, av, sa⟩⟩ := x
    obtain ⟨z0, z1, z2, z3, z4, z5, z6, z7, z8, z9⟩ := hC
    dsimp only at ha z0 z1 z2 z3 z4 z5 z6 z7 z8 z9
    cases x5
    · have HM : Hid (mayM rs ⟨x0, ⟨bt, bk, bv, bs⟩, false, ⟨at', ak, av, sa⟩⟩ = 0) := by show _ = _; unfold mayM; rw [if_neg (by rw [HT.out]; exact h0)]; rfl
      go_wp2_with fail
      go_ret
      exact ⟨by rw [HM.out]; rfl, g1⟩
    · obtain ⟨z, hz⟩ : ∃ z, z = l8L rs t := ⟨_, rfl⟩
      have HM : Hid (mayM rs ⟨x0, ⟨bt, bk, bv, bs⟩, true, ⟨at', ak, av, sa⟩⟩ = if z < 0 then 4 else if (sa.size : Int) > z then 10 else 0) := by show _ = _; unfold mayM; rw [if_neg (by rw [HT.out]; exact h0), if_pos rfl, HT.out, hz]
      have hcon := l8Longest_any a rs n c t w1 HN.out hm HU.out (HR.out _ g1)
      rw [← hz] at hcon
      clear hz
      go_wp2_with fail
      refine hcon.mono ?_
      rintro e w' ⟨rfl, hw⟩
      rw [hw]
      clear hw w' hcon
      by_cases h1 : z < 0
      · go_wp2_with fail
        go_ret
        exact ⟨by rw [HM.out, if_pos h1]; rfl, g1⟩
      · by_cases h2 : z < (sa.size : Int)
        · go_wp2_with fail
          go_ret
          exact ⟨by rw [HM.out, if_neg (by omega), if_pos h2]; rfl, g1⟩
        · go_wp2_with fail
          go_ret
          exact ⟨by rw [HM.out, if_neg (by omega), if_neg (by omega)]; rfl, g1⟩

end Go.Proofs.YtpjlpnaamkbicaaGreatDoor
