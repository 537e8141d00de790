/-
  The contract of the model's DiffBytes; the law FnExactDiffBytes answers true at all bytes.
-/
import Derived.Test.YtpoccjlngbdjlaaQLdf
import Derived.Test.YtpoccjlngbdjlaaQDif
import Derived.Test.YtpoccjlngbdjlaaQDDdb
import Derived.Test.YtpoccjlngbdjlaaQRd

namespace Go.Proofs.Ytpoccjlngbdjlaa
open Go.RowKit
set_option linter.unusedVariables false

set_option maxHeartbeats 2000000 in
theorem specDiffBytes_any (a : Option Addr) (za : List Int) (n1 c1 : Nat) (b : Option Addr) (zb : List Int) (n2 c2 : Nat) (w : World) (h1 : za.length = n1) (h2 : zb.length = n2) (hm1 : n1 ≤ 1048576) (hm2 : n2 ≤ 1048576) (ha : Reads w a za) (hb : Reads w b zb) :
    Calls Try.prog 11 #[.slice a n1 c1, .slice b n2 c2] w fun e w' => ∃ a' c' A' C' F', e = .returned (.agg #[.int .i64 (dfQ za zb), .slice a' (dfN za zb) c']) ∧ Below w.heap.size w w' ∧ OwnS w.heap.size w'.heap.size w' a' (dfN za zb) (spP (dS za zb 0)) A' C' (spZ zb (dS za zb 0)) F' := by
  by_cases hq : za.length = 64 ∧ zb.length = 64
  · have hX : BRes (w.alloc (.cells #[.int .i64 0, .slice none 0 0] 28)) w.heap.size 0 (.slice none 0 0) := ⟨by simp [go_sem], by simp [go_sem], by simp [go_sem], by simp [go_sem]⟩
    have g : Below w.heap.size w (w.alloc (.cells #[.int .i64 0, .slice none 0 0] 28)) := by go_grown
    have hl : (dn za zb 64 0).length = (dS za zb 0).length := by rw [← dS_dn, List.length_map]
    have HB : Hid (dfQ za zb = 0 ∧ dfN za zb = (dn za zb 64 0).length) := by constructor <;> simp only [dfQ, dfN] <;> rw [if_pos hq]; exact hl.symm
    have HP : Hid (spP (dS za zb 0) = rP (dn za zb 64 0) ∧ spZ zb (dS za zb 0) = rZ zb (dn za zb 64 0)) := by constructor; rw [rP_sp, dS_dn]; rw [rZ_sp, dS_dn]
    obtain ⟨n, hn⟩ : ∃ n, n = (dn za zb 64 0).length := ⟨_, rfl⟩
    have HN : Hid ((dn za zb 64 0).length = n) := hn.symm
    rw [← hn] at HB
    obtain ⟨ha64, hb64⟩ := hq
    obtain rfl : n1 = 64 := h1.symm.trans ha64
    obtain rfl : n2 = 64 := h2.symm.trans hb64
    have ha := ha.below g (Nat.le_refl _)
    have hb := hb.below g (Nat.le_refl _)
    obtain ⟨X, hX0⟩ : ∃ X, w.alloc (.cells #[.int .i64 0, .slice none 0 0] 28) = X := ⟨_, rfl⟩
    rw [hX0] at hX g ha hb
    clear hl hn h1 h2
    go_enter Try.func11, Try.ntmps11
    go_wp2_with fail
    refine (l3Diff_any a za c1 b zb c2 _ ha64 hb64 ha hb).mono ?_
    rintro e w2 ⟨a2, d2, A2, C2, F2, rfl, g2, ho⟩
    rw [HN.out] at ho ⊢
    have hXl := hX.lt
    have hX2 := hX.below g2
    have g : Below w.heap.size w w2 := g.trans (g2.mono g.size)
    have hl2 := hX2.lt
    clear hX0 g2 hX ha hb ha64 hb64
    obtain ⟨c0, c1', f0, f1⟩ := hX2
    go_wp2_with fail
    refine bodyPost_ret (v := .agg #[.int .i64 0, .slice a2 n d2]) (by simp [results, Try.results11, go_sem, c0, c1']) rfl ?_
    have tV : Turned w.heap.size (w.heap.size + 1) w2 ((w2.setCell ⟨w.heap.size, 0, none⟩ (.int .i64 0)).setCell ⟨w.heap.size, 1, none⟩ (.slice a2 n d2)) := ((Turned.refl _ _ _).setCell (p := ⟨w.heap.size, 0, none⟩) (Nat.le_refl _) (Nat.lt_succ_self _) _).setCell (p := ⟨w.heap.size, 1, none⟩) (Nat.le_refl _) (Nat.lt_succ_self _) _
    exact ⟨a2, d2, A2, C2, F2, by rw [HB.out.1, HB.out.2], by go_grown, by rw [HB.out.2, HP.out.1, HP.out.2]; exact (ho.turned tV (.inr hXl)).mono (Nat.le_of_lt hXl) tV.size⟩
  · have HB : Hid (dfQ za zb = 1 ∧ dfN za zb = 0) := by constructor <;> simp only [dfQ, dfN] <;> rw [if_neg hq]
    rw [h1, h2] at hq
    by_cases hn1 : n1 = 64
    · have hn2 : n2 ≠ 64 := fun e => hq ⟨hn1, e⟩
      have d1 : ((n1 : Int) != 64) = false := by simp; omega
      have d2 : ((n2 : Int) != 64) = true := by simp; omega
      clear hq h1 h2 hn1
      go_enter Try.func11, Try.ntmps11
      go_wp2_with fail
      refine bodyPost_ret (v := .agg #[.int .i64 1, .slice none 0 0]) (by simp [results, Try.results11, go_sem]) rfl ?_
      exact ⟨none, 0, fun _ => none, fun _ => 0, fun _ => 0, by rw [HB.out.1, HB.out.2], by go_grown, by rw [HB.out.2]; exact .inl rfl⟩
    · have d1 : ((n1 : Int) != 64) = true := by simp; omega
      clear hq h1 h2 hn1
      go_enter Try.func11, Try.ntmps11
      go_wp2_with fail
      refine bodyPost_ret (v := .agg #[.int .i64 1, .slice none 0 0]) (by simp [results, Try.results11, go_sem]) rfl ?_
      exact ⟨none, 0, fun _ => none, fun _ => 0, fun _ => 0, by rw [HB.out.1, HB.out.2], by go_grown, by rw [HB.out.2]; exact .inl rfl⟩

theorem dfN_small (za zb : List Int) : dfN za zb + took (spZ zb (dS za zb 0)) (dfN za zb) ≤ 5000 := by
  unfold dfN
  split
  · have h1 := dS_half za zb 0 (by omega)
    have h2 := took_le (spZ zb (dS za zb 0)) 64 (dS za zb 0).length (fun i hi => by
      simp only [spZ, List.getD, List.getElem?_map, List.getElem?_eq_getElem hi, Option.map_some, Option.getD_some, List.length_take]
      have := ((dS za zb 0)[i]).2
      omega)
    omega
  · simp [took]

end Go.Proofs.Ytpoccjlngbdjlaa
