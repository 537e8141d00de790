/-
  Keys in their order: slices.SortFunc, slices.SortedFunc, risingKeys.
-/
import Derived.Test.YtmboclfgldgefaaGreatCMCky
import Derived.Test.YtmboclfgldgefaaGreatCMMkx

namespace Go.Proofs.YtmboclfgldgefaaGreat
open Go.RowKit Go.Sort Go.Shelf
set_option linter.unusedVariables false

instance : Inhabited K3 := ⟨⟨0, 0, by decide, by decide⟩⟩

def ltK (a b : K3) : Bool := decide (a.x < b.x ∨ (a.x = b.x ∧ a.y < b.y))
theorem ltOf_cpK (a b : K3) : ltOf cpK a b = ltK a b := by
  unfold ltOf ltK cpK orI cpI
  by_cases h1 : a.x < b.x
  · simp [h1]
  · by_cases h2 : b.x < a.x
    · have : ¬ a.x = b.x := by omega
      simp [h1, h2, this]
    · have h3 : a.x = b.x := by omega
      by_cases h4 : a.y < b.y
      · simp [h3, h4]
      · by_cases h5 : b.y < a.y <;> simp [h3, h4, h5]
theorem swoK : SWO (ltOf cpK) where
  irrefl x := by rw [ltOf_cpK]; simp [ltK]
  trans x y z h1 h2 := by rw [ltOf_cpK] at *; simp only [ltK, decide_eq_true_eq] at *; omega
  ntrans x y z h1 h2 := by rw [ltOf_cpK] at *; simp only [ltK, decide_eq_false_iff_not] at *; omega

theorem cmpLaysK (blk off size : Nat) (w : World) : CmpLays Tryz.prog 111 #[] k2F 2 cpK blk off size w :=
  fun _ _ _ _ x y => compareKeys_any x y _

theorem holdsK_of {lo hi b off : Nat} {w : World} {ss : List K3} (h : SlIn k2F 2 lo hi w (some ⟨b, off, none⟩) ss) : HoldsK k2F 2 w b off ss.toArray := by
  intro t ht
  rw [size_flatK] at ht
  rw [get_flatK _ _ _ _ ht]
  have hs : t / 2 < ss.length := by simp at ht; omega
  rcases h with rfl | ⟨b', off', e, _, _, hc⟩
  · simp at hs
  · cases e
    have := hc (t / 2) ss[t / 2] (by simp [hs]) (t % 2) (k2F ss[t / 2])[t % 2]! (by
      have : t % 2 < (k2F ss[t / 2]).length := by rw [k2F_len]; omega
      simp [this])
    rw [show off + t / 2 * 2 + t % 2 = off + t by omega] at this
    rw [show ss.toArray[t / 2]! = ss[t / 2] by simp [hs]]
    exact this

theorem slIn_of {b off lo : Nat} {w : World} {d : Array K3} (h : HoldsK k2F 2 w b off d) (hl : lo ≤ b) (hb : b < w.heap.size) : SlIn k2F 2 lo w.heap.size w (some ⟨b, off, none⟩) d.toList := by
  refine .inr ⟨b, off, rfl, hl, hb, fun i x hx j u hu => ?_⟩
  have hi : i < d.size := by have := (List.getElem?_eq_some_iff.1 hx).1; simpa using this
  have hj : j < 2 := by have := (List.getElem?_eq_some_iff.1 hu).1; rw [k2F_len] at this; exact this
  have e : d[i]! = x := by
    have := (List.getElem?_eq_some_iff.1 hx).2
    simp [hi] at this ⊢
    exact this
  have hh := h.cell hi hj
  rw [e] at hh
  have e2 : (k2F x)[j]! = u := by
    have := (List.getElem?_eq_some_iff.1 hu).2
    have hj2 : j < (k2F x).length := by rw [k2F_len]; exact hj
    simp [hj2]
    exact this
  rw [e2] at hh
  exact hh

theorem below_sorted {B b off n : Nat} {w : World} {d : Array K3} {os : Array Obj} (hB : B ≤ b) (hb : B ≤ w.heap.size) : Below B w (sortWorldK k2F 2 w b off n d os) := by
  unfold sortWorldK putRowK putRow mapBlock grow Go.Sort.ahead
  refine ⟨rfl, rfl, rfl, by simp, fun k hk => ?_⟩
  simp only
  rw [Array.getElem?_append_left (by simp; omega), Array.getElem?_modify, if_neg (by omega)]

/-- A list of keys in their order. -/
def Rise (ys : List K3) : Prop := ys.Pairwise fun a b => ltK b a = false

theorem sort_some (b off cap lo : Nat) (ss : List K3) (w : World) (h : SlIn k2F 2 lo w.heap.size w (some ⟨b, off, none⟩) ss) (hne : ss ≠ []) (hn : ss.length < 4611686018427387904) :
    Calls Tryz.prog 121 #[.slice (some ⟨b, off, none⟩) ss.length cap, .func (.func 111) #[] #[]] w fun e w' => e = .returned (.tuple #[]) ∧ ∃ ys, ys.Perm ss ∧ Rise ys ∧ Below lo w w' ∧ SlIn k2F 2 lo w'.heap.size w' (some ⟨b, off, none⟩) ys := by
  have eg : ∀ args w, (callFunc 111 args).run Tryz.prog w = .ok (.enter 111 args) w := enters_of Tryz.func111 (by kernel_rfl) rfl
  obtain ⟨hlo, hbs⟩ : lo ≤ b ∧ b < w.heap.size := by
    rcases h with h | ⟨b', off', e, h1, h2, _⟩
    · exact absurd h hne
    · cases e; exact ⟨h1, h2⟩
  have hH := holdsK_of h
  have hcon := AnyQ.slices_SortFunc Tryz.sortK 2 Tryz.isAgg75 Tryz.sizeOf75 k2F k2F_len (fun x v hv => by simp [k2F] at hv; rcases hv with rfl | rfl <;> rfl) cpK swoK 111 #[] b off cap ss.toArray w eg (cmpLaysK b off _ w) hH hbs (by simp; omega)
  change Calls Tryz.prog 121 _ _ _ at hcon
  rw [List.size_toArray] at hcon
  refine hcon.mono ?_
  rintro e w' ⟨rfl, d', n, os, ⟨hp1, _, hp3⟩, hs, rfl⟩
  have hd : d'.size = ss.length := by simpa using hp1
  refine ⟨rfl, d'.toList, ?_, ?_, below_sorted hlo (by omega), ?_⟩
  · rw [Array.extract_eq_self_of_le (by omega)] at hp3
    simpa using hp3
  · refine List.pairwise_iff_getElem.2 fun i j hi hj hij => ?_
    have := hs i j (Nat.zero_le _) hij (by simp at hj; omega)
    rw [ltOf_cpK] at this
    simp at hi hj
    rw [getElem!_pos d' i hi, getElem!_pos d' j hj] at this
    simpa using this
  · refine slIn_of ?_ hlo ?_
    · unfold sortWorldK
      refine holdsK_grow _ _ _ _ _ _ _ ?_ (holdsK_putRowK _ _ _ _ _ ss.toArray _ hH (by simpa using hd))
      unfold putRowK
      rw [size_putRow]
      exact hbs
    · have := (below_sorted (B := lo) (b := b) (off := off) (n := n) (d := d') (os := os) hlo (w := w) (by omega)).size
      omega

set_option maxHeartbeats 1000000 in
theorem insertion_none (p : Option Addr) (cap : Nat) (fv : Value) (w : World) : Calls Tryz.prog 130 #[.slice p 0 cap, .int .i64 0, .int .i64 0, fv] w fun e w' => e = .returned (.tuple #[]) ∧ w' = w := by
  go_enter Tryz.func130, Tryz.ntmps130
  go_wp2_with fail
  refine wp_loop_rounds 1 ?_
  rw [rounds_succ]
  go_wp2_with fail
  go_end0
  exact ⟨rfl, rfl⟩

set_option maxRecDepth 20000 in
set_option maxHeartbeats 1000000 in
theorem pdq_none (p : Option Addr) (cap : Nat) (lim : Int) (fv : Value) (w : World) : Calls Tryz.prog 127 #[.slice p 0 cap, .int .i64 0, .int .i64 0, .int .i64 lim, fv] w fun e w' => e = .returned (.tuple #[]) ∧ w' = w := by
  go_enter Tryz.func127, Tryz.ntmps127
  go_wp2_with fail
  refine wp_loop_rounds 1 ?_
  rw [rounds_succ]
  go_wp2_with (go_at_call 130; refine (insertion_none _ _ _ _).mono ?_; rintro e w' ⟨rfl, rfl⟩)
  (try simp only [Exit.inBlock, Exit.then]); refine bodyPost_ret (results_none rfl _ _ _) rfl ?_
  exact ⟨rfl, rfl⟩

set_option maxHeartbeats 1000000 in
theorem sort_none (p : Option Addr) (cap : Nat) (fv : Value) (w : World) : Calls Tryz.prog 121 #[.slice p 0 cap, fv] w fun e w' => e = .returned (.tuple #[]) ∧ w' = w := by
  have hl : ∀ W, Calls Tryz.prog 128 #[.int .u64 0] W fun e w' => e = .returned (.int .i64 (Lib.bitLen 0 : Nat)) ∧ w' = W := fun W => by
    have h := Any.bits_Len (SlLaysF0.n15.bits (P := Tryz.prog) (ρ := Tryz.sortK_ren) { Tryz.sortK with }) 0 W (by omega) (by omega)
    exact h
  go_enter Tryz.func121, Tryz.ntmps121
  go_wp2_with (first | (go_at_call 128; refine (hl _).mono ?_; rintro e w' ⟨rfl, rfl⟩) | (go_at_call 127; refine (pdq_none _ _ _ _ _).mono ?_; rintro e w' ⟨rfl, rfl⟩))
  go_end0
  exact ⟨rfl, rfl⟩

theorem sort_any (a : Option Addr) (cap lo : Nat) (ss : List K3) (w : World) (h : SlIn k2F 2 lo w.heap.size w a ss) (hn : ss.length < 4611686018427387904) :
    Calls Tryz.prog 121 #[.slice a ss.length cap, .func (.func 111) #[] #[]] w fun e w' => e = .returned (.tuple #[]) ∧ ∃ ys, ys.Perm ss ∧ Rise ys ∧ Below lo w w' ∧ SlIn k2F 2 lo w'.heap.size w' a ys := by
  by_cases hne : ss = []
  · subst hne
    refine (sort_none a cap _ w).mono ?_
    rintro e w' ⟨rfl, rfl⟩
    exact ⟨rfl, [], List.Perm.refl _, List.Pairwise.nil, Below.refl _ _, .inl rfl⟩
  · rcases h with h | ⟨b, off, rfl, h1, h2, hc⟩
    · exact absurd h hne
    · exact sort_some b off cap lo ss w (.inr ⟨b, off, rfl, h1, h2, hc⟩) hne hn

set_option maxHeartbeats 1000000 in
theorem sorted_any (gf : Nat) (lb : Array Value) (S : List K3 → Prop) (N : Nat) (w : World) (hN : N ≤ 100000)
    (hgf : ∀ args w, (callFunc gf args).run Tryz.prog w = .ok (.enter gf args) w)
    (hseq : ∀ W, Below w.heap.size w W → SeqStops Fence.wide 9 Tryz.prog gf lb k2E S (fun _ => True) N W) (hS : ∀ ss, S ss → ss.length ≤ 100000) :
    Calls Tryz.prog 109 #[.func (.func gf) #[] lb, .func (.func 111) #[] #[]] w fun e w' => ∃ a ys c ss, e = .returned (.slice a ys.length c) ∧ S ss ∧ ys.Perm ss ∧ Rise ys ∧ Below w.heap.size w w' ∧ SlIn k2F 2 w.heap.size w'.heap.size w' a ys := by
  go_enter Tryz.func109, Tryz.ntmps109
  go_wp2_with fail
  refine (collect_any gf lb S N _ hN hgf hseq).mono ?_
  rintro e w1 ⟨v, ss, rfl, hs, g, ho⟩
  obtain ⟨a, c, rfl, _, hin, _⟩ := SlIn.ofRow k2F_len ho
  have hl := hS ss hs
  clear ho
  have hcon := sort_any a c w.heap.size ss w1 hin (by omega)
  go_wp2_with (go_at_call 121; refine hcon.mono ?_)
  rintro e w2 ⟨rfl, ys, hp, hr, g2, hi2⟩
  go_wp2_with fail
  go_ret
  refine ⟨a, ys, c, ss, ?_, hs, hp, hr, g.trans g2, hi2⟩
  rw [hp.length_eq]
  rfl

theorem nodup_le {α : Type} [BEq α] [LawfulBEq α] : ∀ (xs ys : List α), xs.Nodup → (∀ x, x ∈ xs → x ∈ ys) → xs.length ≤ ys.length
  | [], _, _, _ => by simp
  | x :: xs, ys, hd, hs => by
    have h1 := List.nodup_cons.1 hd
    have := nodup_le xs (ys.erase x) h1.2 (fun y hy => (List.mem_erase_of_ne (show y ≠ x from fun e => h1.1 (e ▸ hy))).2 (hs y (by simp [hy])))
    rw [List.length_erase_of_mem (hs x (by simp))] at this
    have hp : 0 < ys.length := List.length_pos_of_mem (hs x (by simp))
    simp only [List.length_cons]
    omega

def k2P (x : K3) : Int × Int := (x.x, x.y)
theorem k2P_inj {x y : K3} (h : k2P x = k2P y) : x = y := by
  cases x; cases y
  simp only [k2P, Prod.mk.injEq] at h
  obtain ⟨rfl, rfl⟩ := h
  rfl
theorem k2P_nodup {ss : List K3} (h : ss.Nodup) : (ss.map k2P).Nodup := List.Pairwise.map _ (fun a b hab e => hab (k2P_inj e)) h

/-- What risingKeys hands back. -/
def RkPost (l : List ((Int × Int) × Value)) (w : World) (e : Ending) (w' : World) : Prop :=
  ∃ a ys c, e = .returned (.slice a ys.length c) ∧ Below w.heap.size w w' ∧ SlIn k2F 2 w.heap.size w'.heap.size w' a ys ∧ Rise ys ∧ ys.Nodup ∧ ∀ x : K3, x ∈ ys ↔ k2P x ∈ l.map (·.1)

end Go.Proofs.YtmboclfgldgefaaGreat

/-
  risingKeys of the maps of rows and of changes.
-/
namespace Go.Proofs.YtmboclfgldgefaaGreat
open Go.RowKit Go.Sort Go.Shelf
set_option linter.unusedVariables false

set_option maxHeartbeats 400000 in
theorem keysR_box (b : Nat) (w : World) : Calls Tryz.prog 110 #[.map (some b)] w fun e w' => e = .returned (.func (.func 122) #[] #[.pointer (some ⟨w.heap.size, 0, none⟩)]) ∧ Below w.heap.size w w' ∧ w'.cell? ⟨w.heap.size, 0, none⟩ = some (.map (some b)) := by
  go_enter Tryz.func110, Tryz.ntmps110
  go_wp2_with fail
  go_ret
  exact ⟨rfl, by go_grown, by simp [go_sem]⟩

set_option maxHeartbeats 1000000 in
theorem risingR_any (b sz : Nat) (l : List ((Int × Int) × Value)) (w : World) (h : MapK 75 w b l sz) (hl : l.length ≤ 100000) :
    Calls Tryz.prog 86 #[.map (some b)] w fun e w' => RkPost l w e w' := by
  obtain ⟨D, ho, hs, _, hh⟩ := h.1.has
  have hsz := h.2.1
  have hbl := ho.lt
  have hmem : ∀ x : K3, Maps.has D (k2L x) = true ↔ k2P x ∈ l.map (·.1) := fun x => by
    rw [show k2L x = kl x.x x.y from rfl, hh x.x x.y x.h]
    exact kvF_some l x.x x.y
  clear h hh
  go_enter Tryz.func86, Tryz.ntmps86
  go_wp2_with fail
  refine (keysR_box b _).mono ?_
  rintro e w1 ⟨rfl, g1, hc⟩
  have ho1 : w1.ownsMap Tryz.prog 75 hR b sz D := by
    obtain ⟨es, clock, hb, Ft, hs', hD⟩ := ho
    exact ⟨es, clock, (g1.block b hbl).trans hb, Ft, hs', hD⟩
  have hcl := World.block_lt_of_cell? w1 _ hc
  have hcon := sorted_any 122 #[.pointer (some ⟨w.heap.size, 0, none⟩)] (fun ss => ss.Nodup ∧ ∀ x, x ∈ ss ↔ Maps.has D (k2L x) = true) (Maps.size D) w1 (by omega)
    (enters_of Tryz.func122 (by kernel_rfl) rfl)
    (fun W hW => keysR_stops Fence.wide 9 trivial rfl (by omega) w.heap.size b sz D W (Nat.lt_of_lt_of_le hcl hW.size) ((hW.cell hcl).trans hc) (by
      obtain ⟨es, clock, hb, Ft, hs', hD⟩ := ho1
      exact ⟨es, clock, (hW.block b (by have := g1.size; omega)).trans hb, Ft, hs', hD⟩))
    (fun ss hss => by
      have h1 := nodup_le (ss.map k2P) (l.map (·.1)) (k2P_nodup hss.1) (fun q hq => by
        obtain ⟨x, hx, rfl⟩ := List.mem_map.1 hq
        exact (hmem x).1 ((hss.2 x).1 hx))
      simp only [List.length_map] at h1
      omega)
  go_wp2_with (go_at_call 109; refine hcon.mono ?_)
  rintro e w2 ⟨a, ys, c, ss, rfl, hss, hp, hr, g2, hi2⟩
  go_wp2_with fail
  go_ret
  have hs1 := g1.size
  refine ⟨a, ys, c, rfl, g1.trans (g2.mono hs1), hi2.mono hs1 (Nat.le_refl _), hr, hp.nodup_iff.2 hss.1, fun x => ?_⟩
  rw [hp.mem_iff, hss.2, hmem]

end Go.Proofs.YtmboclfgldgefaaGreat
