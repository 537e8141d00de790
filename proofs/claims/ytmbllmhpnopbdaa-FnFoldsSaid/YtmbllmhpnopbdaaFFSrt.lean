/-
  Keys in their order: slices.SortFunc, slices.SortedFunc, risingKeys.
-/
import Derived.Test.YtmbllmhpnopbdaaFFCky
import Derived.Test.YtmbllmhpnopbdaaFFShf

namespace Go.Proofs.Ytmbllmhpnopbdaa
open Go.RowKit Go.Sort Go.Shelf
set_option linter.unusedVariables false

instance : Inhabited K3 := ⟨⟨0, 0, by decide, by decide⟩⟩

def ltK (a b : K3) : Bool := decide (a.x < b.x ∨ (a.x = b.x ∧ a.y < b.y))
theorem ltOf_cpK (a b : K3) : ltOf cpK a b = ltK a b := by
  unfold ltOf ltK cpK orI cpI
  by_cases h1 : a.x < b.x
  · simp [h1]
  · by_cases h2 : b.x < a.x
    · have : ¬ a.x = b.x := by omega
      simp [h1, h2, this]
    · have h3 : a.x = b.x := by omega
      by_cases h4 : a.y < b.y
      · simp [h3, h4]
      · by_cases h5 : b.y < a.y <;> simp [h3, h4, h5]
theorem swoK : SWO (ltOf cpK) where
  irrefl x := by rw [ltOf_cpK]; simp [ltK]
  trans x y z h1 h2 := by rw [ltOf_cpK] at *; simp only [ltK, decide_eq_true_eq] at *; omega
  ntrans x y z h1 h2 := by rw [ltOf_cpK] at *; simp only [ltK, decide_eq_false_iff_not] at *; omega

theorem cmpLaysK (blk off size : Nat) (w : World) : CmpLays Try.prog 36 #[] k2F 2 cpK blk off size w :=
  fun _ _ _ _ x y => compareKeys_any x y _

theorem holdsK_of {lo hi b off : Nat} {w : World} {ss : List K3} (h : SlIn k2F 2 lo hi w (some ⟨b, off, none⟩) ss) : HoldsK k2F 2 w b off ss.toArray := by
  intro t ht
  rw [size_flatK] at ht
  rw [get_flatK _ _ _ _ ht]
  have hs : t / 2 < ss.length := by simp at ht; omega
  rcases h with rfl | ⟨b', off', e, _, _, hc⟩
  · simp at hs
  · cases e
    have := hc (t / 2) ss[t / 2] (by simp [hs]) (t % 2) (k2F ss[t / 2])[t % 2]! (by
      have : t % 2 < (k2F ss[t / 2]).length := by rw [k2F_len]; omega
      simp [this])
    rw [show off + t / 2 * 2 + t % 2 = off + t by omega] at this
    rw [show ss.toArray[t / 2]! = ss[t / 2] by simp [hs]]
    exact this

theorem slIn_of {b off lo : Nat} {w : World} {d : Array K3} (h : HoldsK k2F 2 w b off d) (hl : lo ≤ b) (hb : b < w.heap.size) : SlIn k2F 2 lo w.heap.size w (some ⟨b, off, none⟩) d.toList := by
  refine .inr ⟨b, off, rfl, hl, hb, fun i x hx j u hu => ?_⟩
  have hi : i < d.size := by have := (List.getElem?_eq_some_iff.1 hx).1; simpa using this
  have hj : j < 2 := by have := (List.getElem?_eq_some_iff.1 hu).1; rw [k2F_len] at this; exact this
  have e : d[i]! = x := by
    have := (List.getElem?_eq_some_iff.1 hx).2
    simp [hi] at this ⊢
    exact this
  have hh := h.cell hi hj
  rw [e] at hh
  have e2 : (k2F x)[j]! = u := by
    have := (List.getElem?_eq_some_iff.1 hu).2
    have hj2 : j < (k2F x).length := by rw [k2F_len]; exact hj
    simp [hj2]
    exact this
  rw [e2] at hh
  exact hh

theorem below_sorted {B b off n : Nat} {w : World} {d : Array K3} {os : Array Obj} (hB : B ≤ b) (hb : B ≤ w.heap.size) : Below B w (sortWorldK k2F 2 w b off n d os) := by
  unfold sortWorldK putRowK putRow mapBlock grow Go.Sort.ahead
  refine ⟨rfl, rfl, rfl, by simp, fun k hk => ?_⟩
  simp only
  rw [Array.getElem?_append_left (by simp; omega), Array.getElem?_modify, if_neg (by omega)]

/-- A list of keys in their order. -/
def Rise (ys : List K3) : Prop := ys.Pairwise fun a b => ltK b a = false

theorem sort_some (b off cap lo : Nat) (ss : List K3) (w : World) (h : SlIn k2F 2 lo w.heap.size w (some ⟨b, off, none⟩) ss) (hne : ss ≠ []) (hn : ss.length < 4611686018427387904) :
    Calls Try.prog 59 #[.slice (some ⟨b, off, none⟩) ss.length cap, .func (.func 36) #[] #[]] w fun e w' => e = .returned (.tuple #[]) ∧ ∃ ys, ys.Perm ss ∧ Rise ys ∧ Below lo w w' ∧ SlIn k2F 2 lo w'.heap.size w' (some ⟨b, off, none⟩) ys := by
  have eg : ∀ args w, (callFunc 36 args).run Try.prog w = .ok (.enter 36 args) w := enters_of Try.func36 (by kernel_rfl) rfl
  obtain ⟨hlo, hbs⟩ : lo ≤ b ∧ b < w.heap.size := by
    rcases h with h | ⟨b', off', e, h1, h2, _⟩
    · exact absurd h hne
    · cases e; exact ⟨h1, h2⟩
  have hH := holdsK_of h
  have hcon := AnyQ.slices_SortFunc Try.sortK 2 Try.isAgg65 Try.sizeOf65 k2F k2F_len (fun x v hv => by simp [k2F] at hv; rcases hv with rfl | rfl <;> rfl) cpK swoK 36 #[] b off cap ss.toArray w eg (cmpLaysK b off _ w) hH hbs (by simp; omega)
  change Calls Try.prog 59 _ _ _ at hcon
  rw [List.size_toArray] at hcon
  refine hcon.mono ?_
  rintro e w' ⟨rfl, d', n, os, ⟨hp1, _, hp3⟩, hs, rfl⟩
  have hd : d'.size = ss.length := by simpa using hp1
  refine ⟨rfl, d'.toList, ?_, ?_, below_sorted hlo (by omega), ?_⟩
  · rw [Array.extract_eq_self_of_le (by omega)] at hp3
    simpa using hp3
  · refine List.pairwise_iff_getElem.2 fun i j hi hj hij => ?_
    have := hs i j (Nat.zero_le _) hij (by simp at hj; omega)
    rw [ltOf_cpK] at this
    simp at hi hj
    rw [getElem!_pos d' i hi, getElem!_pos d' j hj] at this
    simpa using this
  · refine slIn_of ?_ hlo ?_
    · unfold sortWorldK
      refine holdsK_grow _ _ _ _ _ _ _ ?_ (holdsK_putRowK _ _ _ _ _ ss.toArray _ hH (by simpa using hd))
      unfold putRowK
      rw [size_putRow]
      exact hbs
    · have := (below_sorted (B := lo) (b := b) (off := off) (n := n) (d := d') (os := os) hlo (w := w) (by omega)).size
      omega

set_option maxHeartbeats 1000000 in
theorem insertion_none (p : Option Addr) (cap : Nat) (fv : Value) (w : World) : Calls Try.prog 70 #[.slice p 0 cap, .int .i64 0, .int .i64 0, fv] w fun e w' => e = .returned (.tuple #[]) ∧ w' = w := by
  go_enter Try.func70, Try.ntmps70
  go_wp2_with fail
  refine wp_loop_rounds 1 ?_
  rw [rounds_succ]
  go_wp2_with fail
  go_end0
  exact ⟨rfl, rfl⟩

set_option maxRecDepth 20000 in
set_option maxHeartbeats 1000000 in
theorem pdq_none (p : Option Addr) (cap : Nat) (lim : Int) (fv : Value) (w : World) : Calls Try.prog 68 #[.slice p 0 cap, .int .i64 0, .int .i64 0, .int .i64 lim, fv] w fun e w' => e = .returned (.tuple #[]) ∧ w' = w := by
  go_enter Try.func68, Try.ntmps68
  go_wp2_with fail
  refine wp_loop_rounds 1 ?_
  rw [rounds_succ]
  go_wp2_with (go_at_call 70; refine (insertion_none _ _ _ _).mono ?_; rintro e w' ⟨rfl, rfl⟩)
  (try simp only [Exit.inBlock, Exit.then]); refine bodyPost_ret (results_none rfl _ _ _) rfl ?_
  exact ⟨rfl, rfl⟩

set_option maxHeartbeats 1000000 in
theorem sort_none (p : Option Addr) (cap : Nat) (fv : Value) (w : World) : Calls Try.prog 59 #[.slice p 0 cap, fv] w fun e w' => e = .returned (.tuple #[]) ∧ w' = w := by
  have hl : ∀ W, Calls Try.prog 69 #[.int .u64 0] W fun e w' => e = .returned (.int .i64 (Lib.bitLen 0 : Nat)) ∧ w' = W := fun W => by
    have h := Any.bits_Len (SlLaysF0.n15.bits (P := Try.prog) (ρ := Try.sortK_ren) { Try.sortK with }) 0 W (by omega) (by omega)
    exact h
  go_enter Try.func59, Try.ntmps59
  go_wp2_with (first | (go_at_call 69; refine (hl _).mono ?_; rintro e w' ⟨rfl, rfl⟩) | (go_at_call 68; refine (pdq_none _ _ _ _ _).mono ?_; rintro e w' ⟨rfl, rfl⟩))
  go_end0
  exact ⟨rfl, rfl⟩

theorem sort_any (a : Option Addr) (cap lo : Nat) (ss : List K3) (w : World) (h : SlIn k2F 2 lo w.heap.size w a ss) (hn : ss.length < 4611686018427387904) :
    Calls Try.prog 59 #[.slice a ss.length cap, .func (.func 36) #[] #[]] w fun e w' => e = .returned (.tuple #[]) ∧ ∃ ys, ys.Perm ss ∧ Rise ys ∧ Below lo w w' ∧ SlIn k2F 2 lo w'.heap.size w' a ys := by
  by_cases hne : ss = []
  · subst hne
    refine (sort_none a cap _ w).mono ?_
    rintro e w' ⟨rfl, rfl⟩
    exact ⟨rfl, [], List.Perm.refl _, List.Pairwise.nil, Below.refl _ _, .inl rfl⟩
  · rcases h with h | ⟨b, off, rfl, h1, h2, hc⟩
    · exact absurd h hne
    · exact sort_some b off cap lo ss w (.inr ⟨b, off, rfl, h1, h2, hc⟩) hne hn

set_option maxHeartbeats 1000000 in
theorem sorted_any (gf : Nat) (lb : Array Value) (S : List K3 → Prop) (N : Nat) (w : World) (hN : N ≤ 100000)
    (hgf : ∀ args w, (callFunc gf args).run Try.prog w = .ok (.enter gf args) w)
    (hseq : ∀ W, Below w.heap.size w W → SeqStops Fence.wide 9 Try.prog gf lb k2E S (fun _ => True) N W) (hS : ∀ ss, S ss → ss.length ≤ 100000) :
    Calls Try.prog 47 #[.func (.func gf) #[] lb, .func (.func 36) #[] #[]] w fun e w' => ∃ a ys c ss, e = .returned (.slice a ys.length c) ∧ S ss ∧ ys.Perm ss ∧ Rise ys ∧ Below w.heap.size w w' ∧ SlIn k2F 2 w.heap.size w'.heap.size w' a ys := by
  go_enter Try.func47, Try.ntmps47
  go_wp2_with fail
  refine (collect_any gf lb S N _ hN hgf hseq).mono ?_
  rintro e w1 ⟨v, ss, rfl, hs, g, ho⟩
  obtain ⟨a, c, rfl, _, hin, _⟩ := SlIn.ofRow k2F_len ho
  have hl := hS ss hs
  clear ho
  have hcon := sort_any a c w.heap.size ss w1 hin (by omega)
  go_wp2_with (go_at_call 59; refine hcon.mono ?_)
  rintro e w2 ⟨rfl, ys, hp, hr, g2, hi2⟩
  go_wp2_with fail
  go_ret
  refine ⟨a, ys, c, ss, ?_, hs, hp, hr, g.trans g2, hi2⟩
  rw [hp.length_eq]
  rfl

theorem nodup_le {α : Type} [BEq α] [LawfulBEq α] : ∀ (xs ys : List α), xs.Nodup → (∀ x, x ∈ xs → x ∈ ys) → xs.length ≤ ys.length
  | [], _, _, _ => by simp
  | x :: xs, ys, hd, hs => by
    have h1 := List.nodup_cons.1 hd
    have := nodup_le xs (ys.erase x) h1.2 (fun y hy => (List.mem_erase_of_ne (show y ≠ x from fun e => h1.1 (e ▸ hy))).2 (hs y (by simp [hy])))
    rw [List.length_erase_of_mem (hs x (by simp))] at this
    have hp : 0 < ys.length := List.length_pos_of_mem (hs x (by simp))
    simp only [List.length_cons]
    omega

def k2P (x : K3) : Int × Int := (x.x, x.y)
theorem k2P_inj {x y : K3} (h : k2P x = k2P y) : x = y := by
  cases x; cases y
  simp only [k2P, Prod.mk.injEq] at h
  obtain ⟨rfl, rfl⟩ := h
  rfl
theorem k2P_nodup {ss : List K3} (h : ss.Nodup) : (ss.map k2P).Nodup := List.Pairwise.map _ (fun a b hab e => hab (k2P_inj e)) h

/-- What risingKeys hands back. -/
def RkPost (l : List ((Int × Int) × Value)) (w : World) (e : Ending) (w' : World) : Prop :=
  ∃ a ys c, e = .returned (.slice a ys.length c) ∧ Below w.heap.size w w' ∧ SlIn k2F 2 w.heap.size w'.heap.size w' a ys ∧ Rise ys ∧ ys.Nodup ∧ ∀ x : K3, x ∈ ys ↔ k2P x ∈ l.map (·.1)

end Go.Proofs.Ytmbllmhpnopbdaa
