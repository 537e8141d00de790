/-
  The contracts of lwSame, DrawPackStub, DrawPackRow: bytes that are the same; two numbers; a flag and a row.
-/
import Derived.Test.YtnhfimgjljmfoaaBent
namespace Go.Proofs.Ytnhfimgjljmfoaa
open Go.RowKit

theorem convert_none (w : World) (a : Option Addr) (c : Nat) : (convert 22 9 (.slice a 0 c)).run Try.prog w = .ok (.string (strOfNums [])) w := by
  rw [run_convert_bytes_string w 22 9 5 a 0 c Try.underlying22 Try.underlying5 Try.underlying9]
  cases a with
  | none => simp [Conv.bytesToString]; rfl
  | some p =>
    have hl : (loadCells p 0).run Try.prog w = .ok (([] : List Int).map (Value.int .u8)).toArray w := run_loadCells_list (P := Try.prog) w p [] (fun j v hj => by simp at hj)
    rw [run_bytesToString w p 0 c [] hl]
    rfl

theorem convert_any (w : World) (a : Option Addr) (n c : Nat) (zs : List Int) (hn : zs.length = n) (h : Reads w a zs) : (convert 22 9 (.slice a n c)).run Try.prog w = .ok (.string (strOfNums zs)) w := by
  by_cases h0 : zs = []
  · subst h0
    simp at hn
    subst hn
    exact convert_none w a c
  · rcases h with h | ⟨b, off, rfl, hc⟩
    · exact absurd h h0
    · exact run_convert_bytes_arg w 22 5 Try.underlying22 Try.underlying5 b off n c zs hn (fun i hi => hc i (by omega)) 9 Try.underlying9

set_option maxHeartbeats 400000 in
theorem lwSame_same (a b : Option Addr) (n c d : Nat) (zs : List Int) (w : World) (hn : zs.length = n) (ha : Reads w a zs) (hb : Reads w b zs) :
    Calls Try.prog 14 #[.slice a n c, .slice b n d] w fun e w' => e = .returned (.bool true) ∧ w' = w := by
  have k1 := convert_any w a n c zs hn ha
  have k2 := convert_any w b n d zs hn hb
  generalize strOfNums zs = s at k1 k2
  clear ha hb hn
  go_enter Try.func14, Try.ntmps14
  go_wp2
  go_ret
  exact ⟨rfl, rfl⟩

set_option maxHeartbeats 1000000 in
theorem drawPackStub_any (a : Option Addr) (n c : Nat) (zs : List Int) (w : World) (rd : Reads w a zs) (hn : zs.length = n) (hm : n ≤ 1048576) (hz : ∀ z ∈ zs, 0 ≤ z ∧ z ≤ 255) :
    Calls Try.prog 17 #[.slice a n c] w fun e w' => (∃ p s, e = .returned (.tuple #[.int .i64 p, .int .i64 s])) ∧ Below w.heap.size w w' := by
  go_enter Try.func17, Try.ntmps17
  go_wp2_with fail
  refine (l1Source_any a n c zs _ rd hn hm hz).mono ?_
  rintro e w1 ⟨rfl, hB, hlt, hS⟩
  have hT := Turned.refl w.heap.size (w.heap.size + 1) w1
  clear rd hn hm hz
  go_wp2_with fail
  refine (l1Next_any _ a n c zs 0 12 _ hS (by omega) (by omega) (by omega)).mono ?_
  rintro e w2 ⟨⟨r2, rfl, p2, q2⟩, ht, hS⟩
  have hT := hT.trans ht
  have hb2 := hS.lt
  clear ht
  go_wp2_with fail
  refine (l1Pick_any _ w2.heap.size 4 a n c zs [r2, 11, 12, -1] (0 + 1) _ (hS.below (by go_grown)) (by omega) ?_ rfl (by omega) (by omega) hb2).mono ?_
  · intro k hk
    match k, hk with
    | 0, _ => simp [go_sem]
    | 1, _ => simp [go_sem]
    | 2, _ => simp [go_sem]
    | 3, _ => simp [go_sem]
  rintro e w3 ⟨⟨j, hj, rfl⟩, ht, hS⟩
  generalize ([r2, 11, 12, -1] : List Int).getD j 0 = p
  have hT := (hT.trans (Turned.ofBelow (by go_grown))).trans ht
  clear ht hb2 hj
  go_wp2_with fail
  refine (l1Next_any _ a n c zs (0 + 1 + 1) 16 _ hS (by omega) (by omega) (by omega)).mono ?_
  rintro e w4 ⟨⟨r4, rfl, p4, q4⟩, ht, hS⟩
  have hT := hT.trans ht
  have hb4 := hS.lt
  clear ht
  go_wp2_with fail
  refine (l1Pick_any _ w4.heap.size 3 a n c zs [r4, 15, 16] (0 + 1 + 1 + 1) _ (hS.below (by go_grown)) (by omega) ?_ rfl (by omega) (by omega) hb4).mono ?_
  · intro k hk
    match k, hk with
    | 0, _ => simp [go_sem]
    | 1, _ => simp [go_sem]
    | 2, _ => simp [go_sem]
  rintro e w5 ⟨⟨j, hj, rfl⟩, ht, hS⟩
  generalize ([r4, 15, 16] : List Int).getD j 0 = s
  have hT := (hT.trans (Turned.ofBelow (by go_grown))).trans ht
  have HB : Hid (Below w.heap.size w w5) := hB.trans (hT.toBelow hB.size (Nat.le_refl _))
  clear ht hT hB hS hb4 hj
  go_wp2_with fail
  go_ret2
  exact ⟨⟨p, s, rfl⟩, HB.out⟩

set_option maxHeartbeats 1000000 in
theorem drawPackRow_any (a : Option Addr) (n c : Nat) (zs : List Int) (w : World) (rd : Reads w a zs) (hn : zs.length = n) (hm : n ≤ 1048576) (hz : ∀ z ∈ zs, 0 ≤ z ∧ z ≤ 255) :
    Calls Try.prog 19 #[.slice a n c] w fun e w' => (∃ f t k v s, e = .returned (.tuple #[.int .i64 f, .agg #[.int .i64 t, .int .i64 k, .int .i64 v, .string s]]) ∧ ByteArray.size s ≤ 9) ∧ Below w.heap.size w w' := by
  go_enter Try.func19, Try.ntmps19
  go_wp2_with fail
  refine (l1Source_any a n c zs _ (rd.below (B := w.heap.size) (by go_grown) (Nat.le_refl _)) hn hm hz).mono ?_
  rintro e w1 ⟨rfl, hB, hlt, hS⟩
  simp only [World.size_alloc] at hS hlt
  have hO : RowOwn w1 w.heap.size 0 0 0 ⟨#[]⟩ := RowOwn.turned (lo := 0) (hi := 0) ⟨⟨by simp [go_sem], by simp [go_sem], by simp [go_sem], by simp [go_sem]⟩, by simp [go_sem], by simp [go_sem], by simp [go_sem], by simp [go_sem]⟩ (Turned.ofBelow hB) (.inr (Nat.zero_le _))
  have hB : Below w.heap.size w w1 := Below.trans (by go_grown) (hB.mono (by simp))
  clear rd hn hm hz
  go_wp2_with fail
  refine (l1Pick_any _ w1.heap.size 6 a n c zs [0, 2, 0, 2, 1, 3] 0 _ (hS.below (by go_grown)) (by omega) ?_ rfl (by omega) (by omega) hlt).mono ?_
  · intro k hk
    match k, hk with
    | 0, _ => simp [go_sem]
    | 1, _ => simp [go_sem]
    | 2, _ => simp [go_sem]
    | 3, _ => simp [go_sem]
    | 4, _ => simp [go_sem]
    | 5, _ => simp [go_sem]
  rintro e w2 ⟨⟨j, hj, rfl⟩, ht, hS⟩
  generalize ([0, 2, 0, 2, 1, 3] : List Int).getD j 0 = f
  have hB : Below w.heap.size w w2 := hB.trans (Below.trans (by go_grown) (ht.toBelow (by simp; omega) (by omega)))
  have hO := (hO.turned (lo := 0) (hi := 0) (Turned.ofBelow (by go_grown)) (.inr (Nat.zero_le _))).turned ht (.inl (by omega))
  clear ht hj hlt
  go_wp2_with fail
  refine (l1Bent_any _ a n c zs _ _ hS (by omega)).mono ?_
  rintro e w3 ⟨⟨t, k, v, s, rfl, hs⟩, ht, _⟩
  have hB : Below w.heap.size w w3 := hB.trans (ht.toBelow hB.size (by omega))
  have hO := hO.turned ht (.inl (by omega))
  have HB : Hid (Below w.heap.size w w3) := hB
  clear ht hS hB
  obtain ⟨⟨o0, o1, o2, o3⟩, g0, g1, g2, g3⟩ := hO
  go_wp2_with fail
  refine bodyPost_ret (v := .tuple #[.int .i64 f, .agg #[.int .i64 t, .int .i64 k, .int .i64 v, .string s]]) (by simp [results, Try.results19, go_sem, o0, o1, o2, o3]) rfl ?_
  exact ⟨⟨f, t, k, v, s, rfl, hs⟩, (((HB.out.setCell (Nat.le_refl _) _).setCell (Nat.le_refl _) _).setCell (Nat.le_refl _) _).setCell (Nat.le_refl _) _⟩

end Go.Proofs.Ytnhfimgjljmfoaa
