/-
  The contract of the model's PutSlot.
-/
import Derived.Test.YtjbopcplpgoiaaaSml
namespace Go.Proofs.Ytjbopcplpgoiaaa
open Go.RowKit
set_option linter.unusedVariables false

/-- What PutSlot answers: its code, its slot, its page. -/
def psQ (zs : List Int) (n : Nat) : Int := if fltOf zs = 0 then (if inR n 1 20 = true then putQ zs n else 1) else fltOf zs
def psS (zs : List Int) (n : Nat) : Int := if psQ zs n = 0 then (putS zs : Int) else 0
def psB (zs cs : List Int) : List Int := if psQ zs cs.length = 0 then putP zs cs else []

theorem PRes.grown {b : Nat} {w w' : World} {q s : Int} {v : Value} (h : PRes w b q s v) (hb : Below w.heap.size w w') : PRes w' b q s v := h.below hb h.lt

set_option maxHeartbeats 2000000 in
theorem specPutSlot_any (a : Option Addr) (zs : List Int) (n c : Nat) (b : Option Addr) (cs : List Int) (m d : Nat) (w : World) (hn : zs.length = n) (hm : n ≤ 1048576) (hnc : n ≤ c) (hr : Reads w a zs) (hz : ∀ z ∈ zs, 0 ≤ z ∧ z ≤ 255) (hml : cs.length = m) (hmm : m ≤ 1048576) (hrc : Reads w b cs) :
    Calls Try.prog 16 #[.slice a n c, .slice b m d] w fun e w' => ∃ a' d', e = .returned (.agg #[.int .i64 (psQ zs m), .int .i64 (psS zs m), .slice a' (psB zs cs).length d']) ∧ Below w.heap.size w w' ∧ BytesIn w.heap.size w'.heap.size w' a' (psB zs cs) := by
  have hX : PRes (w.alloc (.cells #[.int .i64 0, .int .i64 0, .slice none 0 0] 27)) w.heap.size 0 0 (.slice none 0 0) := ⟨by simp [go_sem], by simp [go_sem], by simp [go_sem], by simp [go_sem], by simp [go_sem], by simp [go_sem]⟩
  have g : Below w.heap.size w (w.alloc (.cells #[.int .i64 0, .int .i64 0, .slice none 0 0] 27)) := by go_grown
  have hr := hr.below g (Nat.le_refl _)
  have hrc := hrc.below g (Nat.le_refl _)
  obtain ⟨X, hX0⟩ : ∃ X, w.alloc (.cells #[.int .i64 0, .int .i64 0, .slice none 0 0] 27) = X := ⟨_, rfl⟩
  rw [hX0] at hX g hr hrc
  have hltX := hX.lt
  have bad : ∀ q, psQ zs m = q → q ≠ 0 → psS zs m = 0 ∧ psB zs cs = [] := fun q h1 h2 => by
    constructor
    · unfold psS; rw [h1, if_neg h2]
    · unfold psB; rw [hml, h1, if_neg h2]
  go_enter Try.func16, Try.ntmps16
  go_wp2_with fail
  refine (l2Fault_all a zs n c _ hn hm hr hz).mono ?_
  rintro e w' ⟨rfl, hw'⟩
  subst w'
  clear hX0
  by_cases hq : fltOf zs = 0
  · have hF := fine_of hz hq
    obtain rfl : n = 64 := hn.symm.trans hF.pg.len
    have HQ0 : Hid (fltOf zs = 0) := hq
    rw [hq]
    clear hq
    go_wp2_with fail
    refine (l2CellSize_any b m d _ hmm).mono ?_
    rintro e w' ⟨rfl, hw'⟩
    subst w'
    cases hin : inR m 1 20
    · have HQ : Hid (psQ zs m = 1) := by show _ = _; unfold psQ; rw [if_pos HQ0.out, hin]; rfl
      have HB : Hid (psS zs m = 0 ∧ psB zs cs = []) := bad 1 HQ.out (by decide)
      clear hin bad
      go_wp2_with fail
      refine (l2Bad_any 1 _).mono ?_
      rintro e w2 ⟨rfl, g2⟩
      have hX2 := hX.grown g2
      have g : Below w.heap.size w w2 := g.trans (g2.mono g.size)
      have hl2 := hX2.lt
      clear g2 hX
      obtain ⟨c0, c1, c2, f0, f1, f2⟩ := hX2
      go_wp2_with fail
      refine bodyPost_ret (v := .agg #[.int .i64 1, .int .i64 0, .slice none 0 0]) (by simp [results, Try.results16, go_sem, c0, c1, c2]) rfl ?_
      exact ⟨none, 0, by rw [HQ.out, HB.out.1, HB.out.2]; rfl, by go_grown, by rw [HB.out.2]; exact .inl rfl⟩
    · have HQ : Hid (psQ zs m = putQ zs m) := by show _ = _; unfold psQ; rw [if_pos HQ0.out, hin]; rfl
      have hm1 : 1 ≤ m := by simp [inR] at hin; omega
      clear hin
      by_cases hp : putQ zs m = 0
      · obtain ⟨sb, so, rfl⟩ : ∃ sb so, b = some ⟨sb, so, none⟩ := by
          rcases hrc with h0 | ⟨sb, so, hb, _⟩
          · rw [h0] at hml; simp at hml; omega
          · exact ⟨sb, so, hb⟩
        have HS : Hid (psS zs m = (putS zs : Int)) := by show _ = _; unfold psS; rw [HQ.out, if_pos hp]
        have HB : Hid (psB zs cs = putP zs cs) := by show _ = _; unfold psB; rw [hml, HQ.out, if_pos hp]
        have HP : Hid (putQ zs m = 0) := hp
        clear bad hp
        go_wp2_with fail
        refine (l2Put_ok a zs cs c sb so m d _ hr hF hml hm1 hrc HP.out).mono ?_
        rintro e w2 ⟨gg, dd, rfl, g2, hgg, hA⟩
        have hX2 := hX.grown g2
        have g : Below w.heap.size w w2 := g.trans (g2.mono g.size)
        have hl2 := hX2.lt
        obtain ⟨s, hsv⟩ : ∃ s, s = putS zs := ⟨_, rfl⟩
        rw [← hsv] at HS ⊢
        clear g2 hX hsv
        have hgl := hA.lt
        have hy : BytesIn X.heap.size w2.heap.size w2 (some ⟨gg, 0, none⟩) (putP zs cs) := hA.bytes hgg hgl
        have hlen := hA.len
        have HLen : Hid ((putP zs cs).length = 64) := hlen
        clear hlen hA
        obtain ⟨c0, c1, c2, f0, f1, f2⟩ := hX2
        go_wp2_with fail
        refine bodyPost_ret (v := .agg #[.int .i64 0, .int .i64 s, .slice (some ⟨gg, 0, none⟩) 64 dd]) (by simp [results, Try.results16, go_sem, c0, c1, c2]) rfl ?_
        refine ⟨some ⟨gg, 0, none⟩, dd, by rw [HQ.out, HP.out, HS.out, HB.out, HLen.out], by go_grown, ?_⟩
        rw [HB.out]
        exact (((hy.setCell (by simp; omega) _).setCell (by simp; omega) _).setCell (by simp; omega) _).mono (by omega) (by simp)
      · obtain ⟨q, hqv⟩ : ∃ q, q = putQ zs m := ⟨_, rfl⟩
        have HQ2 : Hid (psQ zs m = q) := by show _ = _; rw [HQ.out, hqv]
        have HB : Hid (psS zs m = 0 ∧ psB zs cs = []) := bad q HQ2.out (by rw [hqv]; exact hp)
        have hput : Calls Try.prog 58 #[.slice a 64 c, .slice b m d] X fun e w' => e = .returned (.tuple #[.slice none 0 0, .int .i64 0, .int .i64 q]) ∧ w' = X := by
          by_cases hmany : putS zs = nb zs 0 ∧ 16 ≤ nb zs 0
          · rw [show q = 2 by rw [hqv]; unfold putQ; rw [if_pos hmany]]
            exact l2Put_many a zs c b m d X hr hF hmany
          · have hfull : freeN zs < m + putMore zs ∨ nb zs 1 < m + (2 + 2 * putM zs) := by
              unfold putQ at hp
              rw [if_neg hmany] at hp
              by_cases h1 : freeN zs < m + putMore zs
              · exact .inl h1
              · by_cases h2 : nb zs 1 < m + (2 + 2 * putM zs)
                · exact .inr h2
                · rw [if_neg h1, if_neg h2] at hp; exact absurd rfl hp
            rw [show q = (if freeN zs < m + putMore zs then 9 else 8) by
              rw [hqv]
              unfold putQ
              rw [if_neg hmany]
              by_cases h1 : freeN zs < m + putMore zs
              · rw [if_pos h1, if_pos h1]
              · rw [if_neg h1, if_neg h1, if_pos (by rcases hfull with h | h; exact absurd h h1; exact h)]]
            exact l2Put_full a zs c b m d X hr hF hmm hmany hfull
        clear bad hp hqv
        go_wp2_with fail
        refine hput.mono ?_
        rintro e w' ⟨rfl, hw'⟩
        subst w'
        obtain ⟨c0, c1, c2, f0, f1, f2⟩ := hX
        go_wp2_with fail
        refine bodyPost_ret (v := .agg #[.int .i64 q, .int .i64 0, .slice none 0 0]) (by simp [results, Try.results16, go_sem, c0, c1, c2]) rfl ?_
        exact ⟨none, 0, by rw [HQ2.out, HB.out.1, HB.out.2]; rfl, by go_grown, by rw [HB.out.2]; exact .inl rfl⟩
  · obtain ⟨q, hqq⟩ : ∃ q, q = fltOf zs := ⟨_, rfl⟩
    have HQ : Hid (psQ zs m = q) := by show _ = _; unfold psQ; rw [if_neg hq, hqq]
    have HB : Hid (psS zs m = 0 ∧ psB zs cs = []) := bad q HQ.out (by rw [hqq]; exact hq)
    have dq : (q != 0) = true := by rw [hqq]; simpa using hq
    rw [← hqq]
    clear hq hqq bad
    go_wp2_with fail
    refine (l2Bad_any q _).mono ?_
    rintro e w2 ⟨rfl, g2⟩
    have hX2 := hX.grown g2
    have g : Below w.heap.size w w2 := g.trans (g2.mono g.size)
    have hl2 := hX2.lt
    clear g2 hX
    obtain ⟨c0, c1, c2, f0, f1, f2⟩ := hX2
    go_wp2_with fail
    refine bodyPost_ret (v := .agg #[.int .i64 q, .int .i64 0, .slice none 0 0]) (by simp [results, Try.results16, go_sem, c0, c1, c2]) rfl ?_
    exact ⟨none, 0, by rw [HQ.out, HB.out.1, HB.out.2]; rfl, by go_grown, by rw [HB.out.2]; exact .inl rfl⟩

end Go.Proofs.Ytjbopcplpgoiaaa
