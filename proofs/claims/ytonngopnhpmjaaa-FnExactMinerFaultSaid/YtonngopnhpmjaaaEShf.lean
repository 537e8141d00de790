/-
  DERIVED: THE SHELF's CONTRACTS AT THIS DUMP, IN PLAIN WORDS (tools/lay-plain.mjs out of 'TryShf9.lean', which tools/lay-shelf.mjs wrote): THE SAME DECLARATIONS UNDER THE SAME NAMES: 'import', 'namespace', 'open', 'def', 'theorem' AND NOTHING ELSE: no command of the shelf's: FOR A HAND-IN. Each laying: the table of numbers ('.._ren') and one theorem, a field a fact of the dump's own or the kernel's comparison; each contract: ONE APPLICATION.
-/
import Derived.Shelf.SlSortCmp.WholeK
import Derived.Ground.SlsfProg
import Derived.Test.YtonngopnhpmjaaaProg
import Derived.Test.YtonngopnhpmjaaaECky
import Derived.Test.YtonngopnhpmjaaaEFnr
import Derived.Test.YtonngopnhpmjaaaEUnpS

namespace Go.Proofs
open Go.Shelf
def Try.sortK_ren : Go.Shelf.Ren := ⟨fun | 6 => 170 | 15 => 185 | 14 => 184 | 28 => 201 | 29 => 202 | 20 => 193 | 21 => 194 | 22 => 195 | 23 => 196 | 24 => 197 | 25 => 198 | 26 => 199 | 27 => 200 | 46 => 207 | 47 => 208 | 48 => 209 | 49 => 210 | 50 => 211 | 57 => 216 | n => n, fun | 22 => 149 | 24 => 147 | 25 => 195 | 3 => 3 | 39 => 265 | 0 => 0 | 53 => 284 | 55 => 286 | 4 => 4 | 46 => 277 | 45 => 276 | 50 => 281 | 5 => 5 | 9 => 9 | 66 => 288 | 70 => 292 | 76 => 295 | 77 => 296 | n => n, fun | n => n⟩
theorem Try.sortK : Go.Proofs.SlLaysF0.n6 Try.prog Try.sortK_ren := {
  mixed := by kernel_rfl
  f6 := ⟨Try.f170.name, by decide, Try.func170.trans (congrArg some (by kernel_rfl))⟩
  f14 := ⟨Try.f184.name, by decide, Try.func184.trans (congrArg some (by kernel_rfl))⟩
  f15 := Try.func185.trans (congrArg some (by kernel_rfl))
  f20 := ⟨Try.f193.name, by decide, Try.func193.trans (congrArg some (by kernel_rfl))⟩
  f21 := ⟨Try.f194.name, by decide, Try.func194.trans (congrArg some (by kernel_rfl))⟩
  f22 := ⟨Try.f195.name, by decide, Try.func195.trans (congrArg some (by kernel_rfl))⟩
  f23 := ⟨Try.f196.name, by decide, Try.func196.trans (congrArg some (by kernel_rfl))⟩
  f24 := ⟨Try.f197.name, by decide, Try.func197.trans (congrArg some (by kernel_rfl))⟩
  f25 := ⟨Try.f198.name, by decide, Try.func198.trans (congrArg some (by kernel_rfl))⟩
  f26 := ⟨Try.f199.name, by decide, Try.func199.trans (congrArg some (by kernel_rfl))⟩
  f27 := ⟨Try.f200.name, by decide, Try.func200.trans (congrArg some (by kernel_rfl))⟩
  f28 := Try.func201.trans (congrArg some (by kernel_rfl))
  f29 := Try.func202.trans (congrArg some (by kernel_rfl))
  f46 := ⟨Try.f207.name, by decide, Try.func207.trans (congrArg some (by kernel_rfl))⟩
  f47 := Try.func208.trans (congrArg some (by kernel_rfl))
  f48 := Try.func209.trans (congrArg some (by kernel_rfl))
  f49 := ⟨Try.f210.name, by decide, Try.func210.trans (congrArg some (by kernel_rfl))⟩
  f50 := ⟨Try.f211.name, by decide, Try.func211.trans (congrArg some (by kernel_rfl))⟩
  f57 := ⟨Try.f216.name, by decide, Try.func216.trans (congrArg some (by kernel_rfl))⟩
  t0 := Try.underlying0
  a0 := Try.isAgg0
  z0 := Try.sizeOf0
  v0 := Try.zeroValue0
  t3 := Try.underlying3
  a3 := Try.isAgg3
  z3 := Try.sizeOf3
  v3 := Try.zeroValue3
  t4 := Try.underlying4
  a4 := Try.isAgg4
  z4 := Try.sizeOf4
  v4 := Try.zeroValue4
  t5 := Try.underlying5
  a5 := Try.isAgg5
  z5 := Try.sizeOf5
  v5 := Try.zeroValue5
  t9 := Try.underlying9
  a9 := Try.isAgg9
  z9 := Try.sizeOf9
  v9 := Try.zeroValue9
  t22 := Try.underlying149
  a22 := Try.isAgg149
  z22 := Try.sizeOf149
  v22 := Try.zeroValue149
  t25 := Try.underlying195
  a25 := Try.isAgg195
  z25 := Try.sizeOf195
  v25 := Try.zeroValue195
  t39 := Try.underlying265
  a39 := Try.isAgg265
  z39 := Try.sizeOf265
  v39 := Try.zeroValue265
  t45 := Try.underlying276
  a45 := Try.isAgg276
  z45 := Try.sizeOf276
  v45 := Try.zeroValue276
  t46 := Try.underlying277
  a46 := Try.isAgg277
  z46 := Try.sizeOf277
  v46 := Try.zeroValue277
  t50 := Try.underlying281
  a50 := Try.isAgg281
  z50 := Try.sizeOf281
  v50 := Try.zeroValue281
  t53 := Try.underlying284
  a53 := Try.isAgg284
  z53 := Try.sizeOf284
  v53 := Try.zeroValue284
  t55 := Try.underlying286
  a55 := Try.isAgg286
  z55 := Try.sizeOf286
  v55 := Try.zeroValue286
  t66 := Try.underlying288
  a66 := Try.isAgg288
  z66 := Try.sizeOf288
  v66 := Try.zeroValue288
  t70 := Try.underlying292
  a70 := Try.isAgg292
  z70 := Try.sizeOf292
  v70 := Try.zeroValue292
  t76 := Try.underlying295
  a76 := Try.isAgg295
  z76 := Try.sizeOf295
  v76 := Try.zeroValue295
  t77 := Try.underlying296
  a77 := Try.isAgg296
  z77 := Try.sizeOf296
  v77 := Try.zeroValue296 }
end Go.Proofs

/-
  Keys in their order: slices.SortFunc, slices.SortedFunc, risingKeys.
-/
namespace Go.Proofs.Ytonngopnhpmjaaa
open Go.RowKit Go.Sort Go.Shelf
set_option linter.unusedVariables false

instance : Inhabited K2 := ⟨⟨0, 0, by decide, by decide⟩⟩

def ltK (a b : K2) : Bool := decide (a.x < b.x ∨ (a.x = b.x ∧ a.y < b.y))
theorem ltOf_cpK (a b : K2) : ltOf cpK a b = ltK a b := by
  unfold ltOf ltK cpK orI cpI
  by_cases h1 : a.x < b.x
  · simp [h1]
  · by_cases h2 : b.x < a.x
    · have : ¬ a.x = b.x := by omega
      simp [h1, h2, this]
    · have h3 : a.x = b.x := by omega
      by_cases h4 : a.y < b.y
      · simp [h3, h4]
      · by_cases h5 : b.y < a.y <;> simp [h3, h4, h5]
theorem swoK : SWO (ltOf cpK) where
  irrefl x := by rw [ltOf_cpK]; simp [ltK]
  trans x y z h1 h2 := by rw [ltOf_cpK] at *; simp only [ltK, decide_eq_true_eq] at *; omega
  ntrans x y z h1 h2 := by rw [ltOf_cpK] at *; simp only [ltK, decide_eq_false_iff_not] at *; omega

theorem cmpLaysK (blk off size : Nat) (w : World) : CmpLays Try.prog 140 #[] k2F 2 cpK blk off size w :=
  fun _ _ _ _ x y => compareKeys_any x y _

theorem holdsK_of {lo hi b off : Nat} {w : World} {ss : List K2} (h : SlIn k2F 2 lo hi w (some ⟨b, off, none⟩) ss) : HoldsK k2F 2 w b off ss.toArray := by
  intro t ht
  rw [size_flatK] at ht
  rw [get_flatK _ _ _ _ ht]
  have hs : t / 2 < ss.length := by simp at ht; omega
  rcases h with rfl | ⟨b', off', e, _, _, hc⟩
  · simp at hs
  · cases e
    have := hc (t / 2) ss[t / 2] (by simp [hs]) (t % 2) (k2F ss[t / 2])[t % 2]! (by
      have : t % 2 < (k2F ss[t / 2]).length := by rw [k2F_len]; omega
      simp [this])
    rw [show off + t / 2 * 2 + t % 2 = off + t by omega] at this
    rw [show ss.toArray[t / 2]! = ss[t / 2] by simp [hs]]
    exact this

theorem slIn_of {b off lo : Nat} {w : World} {d : Array K2} (h : HoldsK k2F 2 w b off d) (hl : lo ≤ b) (hb : b < w.heap.size) : SlIn k2F 2 lo w.heap.size w (some ⟨b, off, none⟩) d.toList := by
  refine .inr ⟨b, off, rfl, hl, hb, fun i x hx j u hu => ?_⟩
  have hi : i < d.size := by have := (List.getElem?_eq_some_iff.1 hx).1; simpa using this
  have hj : j < 2 := by have := (List.getElem?_eq_some_iff.1 hu).1; rw [k2F_len] at this; exact this
  have e : d[i]! = x := by
    have := (List.getElem?_eq_some_iff.1 hx).2
    simp [hi] at this ⊢
    exact this
  have hh := h.cell hi hj
  rw [e] at hh
  have e2 : (k2F x)[j]! = u := by
    have := (List.getElem?_eq_some_iff.1 hu).2
    have hj2 : j < (k2F x).length := by rw [k2F_len]; exact hj
    simp [hj2]
    exact this
  rw [e2] at hh
  exact hh

theorem below_sorted {B b off n : Nat} {w : World} {d : Array K2} {os : Array Obj} (hB : B ≤ b) (hb : B ≤ w.heap.size) : Below B w (sortWorldK k2F 2 w b off n d os) := by
  unfold sortWorldK putRowK putRow mapBlock grow Go.Sort.ahead
  refine ⟨rfl, rfl, rfl, by simp, fun k hk => ?_⟩
  simp only
  rw [Array.getElem?_append_left (by simp; omega), Array.getElem?_modify, if_neg (by omega)]

/-- A list of keys in their order. -/
def Rise (ys : List K2) : Prop := ys.Pairwise fun a b => ltK b a = false

theorem sort_some (b off cap lo : Nat) (ss : List K2) (w : World) (h : SlIn k2F 2 lo w.heap.size w (some ⟨b, off, none⟩) ss) (hne : ss ≠ []) (hn : ss.length < 4611686018427387904) :
    Calls Try.prog 170 #[.slice (some ⟨b, off, none⟩) ss.length cap, .func (.func 140) #[] #[]] w fun e w' => e = .returned (.tuple #[]) ∧ ∃ ys, ys.Perm ss ∧ Rise ys ∧ Below lo w w' ∧ SlIn k2F 2 lo w'.heap.size w' (some ⟨b, off, none⟩) ys := by
  have eg : ∀ args w, (callFunc 140 args).run Try.prog w = .ok (.enter 140 args) w := enters_of Try.func140 (by kernel_rfl) rfl
  obtain ⟨hlo, hbs⟩ : lo ≤ b ∧ b < w.heap.size := by
    rcases h with h | ⟨b', off', e, h1, h2, _⟩
    · exact absurd h hne
    · cases e; exact ⟨h1, h2⟩
  have hH := holdsK_of h
  have hcon := AnyQ.slices_SortFunc Try.sortK 2 Try.isAgg147 Try.sizeOf147 k2F k2F_len (fun x v hv => by simp [k2F] at hv; rcases hv with rfl | rfl <;> rfl) cpK swoK 140 #[] b off cap ss.toArray w eg (cmpLaysK b off _ w) hH hbs (by simp; omega)
  change Calls Try.prog 170 _ _ _ at hcon
  rw [List.size_toArray] at hcon
  refine hcon.mono ?_
  rintro e w' ⟨rfl, d', n, os, ⟨hp1, _, hp3⟩, hs, rfl⟩
  have hd : d'.size = ss.length := by simpa using hp1
  refine ⟨rfl, d'.toList, ?_, ?_, below_sorted hlo (by omega), ?_⟩
  · rw [Array.extract_eq_self_of_le (by omega)] at hp3
    simpa using hp3
  · refine List.pairwise_iff_getElem.2 fun i j hi hj hij => ?_
    have := hs i j (Nat.zero_le _) hij (by simp at hj; omega)
    rw [ltOf_cpK] at this
    simp at hi hj
    rw [getElem!_pos d' i hi, getElem!_pos d' j hj] at this
    simpa using this
  · refine slIn_of ?_ hlo ?_
    · unfold sortWorldK
      refine holdsK_grow _ _ _ _ _ _ _ ?_ (holdsK_putRowK _ _ _ _ _ ss.toArray _ hH (by simpa using hd))
      unfold putRowK
      rw [size_putRow]
      exact hbs
    · have := (below_sorted (B := lo) (b := b) (off := off) (n := n) (d := d') (os := os) hlo (w := w) (by omega)).size
      omega

set_option maxHeartbeats 1000000 in
theorem insertion_none (p : Option Addr) (cap : Nat) (fv : Value) (w : World) : Calls Try.prog 193 #[.slice p 0 cap, .int .i64 0, .int .i64 0, fv] w fun e w' => e = .returned (.tuple #[]) ∧ w' = w := by
  go_enter Try.func193, Try.ntmps193
  go_wp2_with fail
  refine wp_loop_rounds 1 ?_
  rw [rounds_succ]
  go_wp2_with fail
  go_end0
  exact ⟨rfl, rfl⟩

set_option maxRecDepth 20000 in
set_option maxHeartbeats 1000000 in
theorem pdq_none (p : Option Addr) (cap : Nat) (lim : Int) (fv : Value) (w : World) : Calls Try.prog 184 #[.slice p 0 cap, .int .i64 0, .int .i64 0, .int .i64 lim, fv] w fun e w' => e = .returned (.tuple #[]) ∧ w' = w := by
  go_enter Try.func184, Try.ntmps184
  go_wp2_with fail
  refine wp_loop_rounds 1 ?_
  rw [rounds_succ]
  go_wp2_with (go_at_call 193; refine (insertion_none _ _ _ _).mono ?_; rintro e w' ⟨rfl, rfl⟩)
  (try simp only [Exit.inBlock, Exit.then]); refine bodyPost_ret (results_none rfl _ _ _) rfl ?_
  exact ⟨rfl, rfl⟩

set_option maxHeartbeats 1000000 in
theorem sort_none (p : Option Addr) (cap : Nat) (fv : Value) (w : World) : Calls Try.prog 170 #[.slice p 0 cap, fv] w fun e w' => e = .returned (.tuple #[]) ∧ w' = w := by
  have hl : ∀ W, Calls Try.prog 185 #[.int .u64 0] W fun e w' => e = .returned (.int .i64 (Lib.bitLen 0 : Nat)) ∧ w' = W := fun W => by
    have h := Any.bits_Len (SlLaysF0.n15.bits (P := Try.prog) (ρ := Try.sortK_ren) { Try.sortK with }) 0 W (by omega) (by omega)
    exact h
  go_enter Try.func170, Try.ntmps170
  go_wp2_with (first | (go_at_call 185; refine (hl _).mono ?_; rintro e w' ⟨rfl, rfl⟩) | (go_at_call 184; refine (pdq_none _ _ _ _ _).mono ?_; rintro e w' ⟨rfl, rfl⟩))
  go_end0
  exact ⟨rfl, rfl⟩

theorem sort_any (a : Option Addr) (cap lo : Nat) (ss : List K2) (w : World) (h : SlIn k2F 2 lo w.heap.size w a ss) (hn : ss.length < 4611686018427387904) :
    Calls Try.prog 170 #[.slice a ss.length cap, .func (.func 140) #[] #[]] w fun e w' => e = .returned (.tuple #[]) ∧ ∃ ys, ys.Perm ss ∧ Rise ys ∧ Below lo w w' ∧ SlIn k2F 2 lo w'.heap.size w' a ys := by
  by_cases hne : ss = []
  · subst hne
    refine (sort_none a cap _ w).mono ?_
    rintro e w' ⟨rfl, rfl⟩
    exact ⟨rfl, [], List.Perm.refl _, List.Pairwise.nil, Below.refl _ _, .inl rfl⟩
  · rcases h with h | ⟨b, off, rfl, h1, h2, hc⟩
    · exact absurd h hne
    · exact sort_some b off cap lo ss w (.inr ⟨b, off, rfl, h1, h2, hc⟩) hne hn

set_option maxHeartbeats 1000000 in
theorem sorted_any (gf : Nat) (lb : Array Value) (S : List K2 → Prop) (N : Nat) (w : World) (hN : N ≤ 100000)
    (hgf : ∀ args w, (callFunc gf args).run Try.prog w = .ok (.enter gf args) w)
    (hseq : ∀ W, Below w.heap.size w W → SeqStops Fence.wide 9 Try.prog gf lb k2E S (fun _ => True) N W) (hS : ∀ ss, S ss → ss.length ≤ 100000) :
    Calls Try.prog 147 #[.func (.func gf) #[] lb, .func (.func 140) #[] #[]] w fun e w' => ∃ a ys c ss, e = .returned (.slice a ys.length c) ∧ S ss ∧ ys.Perm ss ∧ Rise ys ∧ Below w.heap.size w w' ∧ SlIn k2F 2 w.heap.size w'.heap.size w' a ys := by
  go_enter Try.func147, Try.ntmps147
  go_wp2_with fail
  refine (collect_any gf lb S N _ hN hgf hseq).mono ?_
  rintro e w1 ⟨v, ss, rfl, hs, g, ho⟩
  obtain ⟨a, c, rfl, _, hin, _⟩ := SlIn.ofRow k2F_len ho
  have hl := hS ss hs
  clear ho
  have hcon := sort_any a c w.heap.size ss w1 hin (by omega)
  go_wp2_with (go_at_call 170; refine hcon.mono ?_)
  rintro e w2 ⟨rfl, ys, hp, hr, g2, hi2⟩
  go_wp2_with fail
  go_ret
  refine ⟨a, ys, c, ss, ?_, hs, hp, hr, g.trans g2, hi2⟩
  rw [hp.length_eq]
  rfl

theorem nodup_le {α : Type} [BEq α] [LawfulBEq α] : ∀ (xs ys : List α), xs.Nodup → (∀ x, x ∈ xs → x ∈ ys) → xs.length ≤ ys.length
  | [], _, _, _ => by simp
  | x :: xs, ys, hd, hs => by
    have h1 := List.nodup_cons.1 hd
    have := nodup_le xs (ys.erase x) h1.2 (fun y hy => (List.mem_erase_of_ne (show y ≠ x from fun e => h1.1 (e ▸ hy))).2 (hs y (by simp [hy])))
    rw [List.length_erase_of_mem (hs x (by simp))] at this
    have hp : 0 < ys.length := List.length_pos_of_mem (hs x (by simp))
    simp only [List.length_cons]
    omega

def k2P (x : K2) : Int × Int := (x.x, x.y)
theorem k2P_inj {x y : K2} (h : k2P x = k2P y) : x = y := by
  cases x; cases y
  simp only [k2P, Prod.mk.injEq] at h
  obtain ⟨rfl, rfl⟩ := h
  rfl
theorem k2P_nodup {ss : List K2} (h : ss.Nodup) : (ss.map k2P).Nodup := List.Pairwise.map _ (fun a b hab e => hab (k2P_inj e)) h

/-- What risingKeys hands back. -/
def RkPost (l : List ((Int × Int) × Value)) (w : World) (e : Ending) (w' : World) : Prop :=
  ∃ a ys c, e = .returned (.slice a ys.length c) ∧ Below w.heap.size w w' ∧ SlIn k2F 2 w.heap.size w'.heap.size w' a ys ∧ Rise ys ∧ ys.Nodup ∧ ∀ x : K2, x ∈ ys ↔ k2P x ∈ l.map (·.1)

end Go.Proofs.Ytonngopnhpmjaaa

/-
  The program's RowsIn: the rows that are seen, in the order of their keys.
-/
namespace Go.Proofs.Ytonngopnhpmjaaa
open Go.RowKit Go.Maps
set_option linter.unusedVariables false

theorem elW : ElT 28 82 rwE 4 40 where
  und := Try.underlying28
  inf := by obtain ⟨i, h1, h2, h3, h4⟩ := info35; exact ⟨i, _, h1, h2, h3, h4, rfl⟩
  len := rwE_len
  one := by intro x u hu; simp [rwE] at hu; rcases hu with rfl | rfl | rfl | rfl <;> rfl
  pos := by decide
  few := by decide

/-- One row ahead of another. -/
def rLt (a b : Rw) : Prop := a.t < b.t ∨ (a.t = b.t ∧ a.k < b.k)
/-- rs: all rows that are seen, rising. -/
def RowsOrd (ps : List (List Int)) (rs : List Rw) : Prop := rs.Perm ((seenL ps).map (·.r)) ∧ rs.Pairwise rLt

theorem RowsOrd.unique {ps : List (List Int)} {rs rs' : List Rw} (h : RowsOrd ps rs) (h' : RowsOrd ps rs') : rs = rs' := by
  refine List.Perm.eq_of_pairwise (le := rLt) (fun a b _ _ h1 h2 => ?_) h.2 h'.2 (h.1.trans h'.1.symm)
  unfold rLt at h1 h2
  omega

/-- The row of a key. -/
def rowK (ps : List (List Int)) (x : K2) : Rw := ((fnd ps x.x x.y).getD (rp 0)).r

theorem rowK_at {ps : List (List Int)} {x : K2} (h : k2P x ∈ (seenKV ps).map (·.1)) : ∃ y, y ∈ seenL ps ∧ fnd ps x.x x.y = some y ∧ rowK ps x = y.r ∧ y.r.t = x.x ∧ y.r.k = x.y := by
  obtain ⟨q, hq, e⟩ := List.mem_map.1 h
  obtain ⟨z, hz, rfl⟩ := List.mem_map.1 hq
  unfold plK k2P at e
  simp only [Prod.mk.injEq] at e
  cases hf : fnd ps x.x x.y with
  | none =>
    unfold fnd at hf
    have := List.find?_eq_none.1 hf z hz
    simp [e.1, e.2] at this
  | some y =>
    have hf' := hf
    unfold fnd at hf
    have h1 := List.mem_of_find?_eq_some hf
    have h2 := List.find?_some hf
    simp at h2
    refine ⟨y, h1, rfl, ?_, h2.1, h2.2⟩
    unfold rowK
    rw [hf']
    rfl

theorem rw_ext : ∀ {a b : Rw}, a.t = b.t → a.k = b.k → a.v = b.v → a.s = b.s → a = b := by
  rintro ⟨_, _, _, _⟩ ⟨_, _, _, _⟩ rfl rfl rfl rfl
  rfl

theorem rise_lt {ys : List K2} (h : Rise ys) (hd : ys.Nodup) : ys.Pairwise fun a b => ltK a b = true := by
  refine List.Pairwise.imp₂ (R := fun a b : K2 => ltK b a = false) (S := fun a b => a ≠ b) (fun a b h1 h2 => ?_) h hd
  unfold ltK at *
  simp only [decide_eq_false_iff_not, decide_eq_true_eq] at *
  have : ¬ (a.x = b.x ∧ a.y = b.y) := fun e => h2 (k2P_inj (by unfold k2P; rw [e.1, e.2]))
  omega

theorem rowsOrd_of {ps : List (List Int)} {ys : List K2} (hnd : ((seenKV ps).map (·.1)).Nodup) (hkw : ∀ y ∈ seenL ps, Kw y.r.t y.r.k) (hr : Rise ys) (hd : ys.Nodup) (hm : ∀ x : K2, x ∈ ys ↔ k2P x ∈ (seenKV ps).map (·.1)) : RowsOrd ps (ys.map (rowK ps)) := by
  have hL := rise_lt hr hd
  have hkeys : ∀ x ∈ ys, (rowK ps x).t = x.x ∧ (rowK ps x).k = x.y := fun x hx => by
    obtain ⟨y, _, _, e, e1, e2⟩ := rowK_at ((hm x).1 hx)
    rw [e]; exact ⟨e1, e2⟩
  have hP : (ys.map (rowK ps)).Pairwise rLt := by
    rw [List.pairwise_map]
    refine hL.imp_of_mem (fun {a b} ha hb h => ?_)
    unfold ltK at h
    simp only [decide_eq_true_eq] at h
    obtain ⟨a1, a2⟩ := hkeys a ha
    obtain ⟨b1, b2⟩ := hkeys b hb
    unfold rLt
    rw [a1, a2, b1, b2]
    exact h
  refine ⟨?_, hP⟩
  have nd1 : (ys.map (rowK ps)).Nodup := hP.imp (fun {a b} h e => by subst e; unfold rLt at h; omega)
  have hkm : (seenKV ps).map (·.1) = (seenL ps).map (fun y => (y.r.t, y.r.k)) := by unfold seenKV; rw [List.map_map]; rfl
  have nd2 : ((seenL ps).map (·.r)).Nodup := by
    rw [hkm] at hnd
    have h1 := List.pairwise_map.1 hnd
    exact List.pairwise_map.2 (h1.imp (fun {a b} h e => h (by rw [e])))
  refine (List.perm_ext_iff_of_nodup nd1 nd2).2 fun r => ⟨fun h => ?_, fun h => ?_⟩
  · obtain ⟨x, hx, rfl⟩ := List.mem_map.1 h
    obtain ⟨y, hy, _, e, _⟩ := rowK_at ((hm x).1 hx)
    exact List.mem_map.2 ⟨y, hy, e.symm⟩
  · obtain ⟨y, hy, rfl⟩ := List.mem_map.1 h
    have hmem : (y.r.t, y.r.k) ∈ (seenKV ps).map (·.1) := by rw [hkm]; exact List.mem_map.2 ⟨y, hy, rfl⟩
    have hx := (hm ⟨y.r.t, y.r.k, hkw y hy⟩).2 hmem
    refine List.mem_map.2 ⟨_, hx, ?_⟩
    have hv : kvF (seenKV ps) y.r.t y.r.k = some (plV y) := kvF_mem hnd (List.mem_map.2 ⟨y, hy, rfl⟩)
    obtain ⟨z, hz, hf, e, e1, e2⟩ := rowK_at hmem (x := ⟨y.r.t, y.r.k, hkw y hy⟩)
    rw [e]
    have hv2 : kvF (seenKV ps) y.r.t y.r.k = some (plV z) := kvF_mem hnd (List.mem_map.2 ⟨z, hz, by unfold plK; rw [e1, e2]⟩)
    rw [hv] at hv2
    simp only [Option.some.injEq, plV, Value.agg.injEq, Array.mk.injEq, List.cons.injEq, Value.int.injEq, Value.string.injEq, true_and, and_true] at hv2
    obtain ⟨_, _, _, q1, q2, q3, q4⟩ := hv2
    exact rw_ext q1.symm q2.symm q3.symm q4.symm

theorem field37 (q p s t k v : Int) (x : ByteArray) (W : World) : (Instr.field 215 (.agg #[.int .i64 q, .int .i64 p, .int .i64 s, .int .i64 t, .int .i64 k, .int .i64 v, .string x]) 3).run Try.prog W = .ok (.agg #[.int .i64 t, .int .i64 k, .int .i64 v, .string x]) W := by kernel_rfl

structure RsO (w : World) (b : Nat) : Prop where
  c0 : w.cell? ⟨b, 0, none⟩ = some (.int .i64 0)
  c1 : w.cell? ⟨b, 1, none⟩ = some (.slice none 0 0)
  f0 : w.frozen? ⟨b, 0, none⟩ = false
  f1 : w.frozen? ⟨b, 1, none⟩ = false
theorem RsO.below {w w' : World} {b : Nat} (h : RsO w b) {B : Nat} (hb : Below B w w') (hl : b < B) : RsO w' b :=
  ⟨(hb.cell (p := ⟨b, 0, none⟩) hl).trans h.c0, (hb.cell (p := ⟨b, 1, none⟩) hl).trans h.c1, (hb.frozen (p := ⟨b, 0, none⟩) hl).trans h.f0, (hb.frozen (p := ⟨b, 1, none⟩) hl).trans h.f1⟩
theorem Rs.k2 {w : World} {a : Option Addr} {ys : List K2} (h : Rs k2F 2 w a ys) {i : Nat} {x : K2} (hx : ys[i]? = some x) : ∃ b off, a = some ⟨b, off, none⟩ ∧ w.cell? ⟨b, off + i * 2, none⟩ = some (.int .i64 x.x) ∧ w.cell? ⟨b, off + i * 2 + 1, none⟩ = some (.int .i64 x.y) := by
  rcases h with h | ⟨b, off, ha, hc⟩
  · rw [h] at hx; simp at hx
  · exact ⟨b, off, ha, hc i x hx 0 _ rfl, hc i x hx 1 _ rfl⟩

/-- What RowsIn answers. -/
def RiPost (ps : List (List Int)) (w : World) (e : Ending) (w' : World) : Prop :=
  ∃ v rs, e = .returned (.agg #[.int .i64 (viewQ ps), v]) ∧ Below w.heap.size w w' ∧ w'.ownsRow w.heap.size 82 4 v rs.length (flat rwE rs) ∧ (viewQ ps = 0 → RowsOrd ps rs) ∧ (viewQ ps ≠ 0 → rs = [])

end Go.Proofs.Ytonngopnhpmjaaa
