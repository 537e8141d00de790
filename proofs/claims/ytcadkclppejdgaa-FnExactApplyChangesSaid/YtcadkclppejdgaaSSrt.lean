/-
  Keys in their order: slices.SortFunc, slices.SortedFunc, risingKeys.
-/
import Derived.Test.YtcadkclppejdgaaSAps
import Derived.Test.YtcadkclppejdgaaSFns
import Derived.Test.YtcadkclppejdgaaSUnpS

namespace Go.Proofs.Ytcadkclppejdgaa
open Go.RowKit Go.Sort Go.Shelf
set_option linter.unusedVariables false

instance : Inhabited K2 := ⟨⟨0, 0, by decide, by decide⟩⟩

def ltK (a b : K2) : Bool := decide (a.x < b.x ∨ (a.x = b.x ∧ a.y < b.y))
theorem ltOf_cpK (a b : K2) : ltOf cpK a b = ltK a b := by
  unfold ltOf ltK cpK orI cpI
  by_cases h1 : a.x < b.x
  · simp [h1]
  · by_cases h2 : b.x < a.x
    · have : ¬ a.x = b.x := by omega
      simp [h1, h2, this]
    · have h3 : a.x = b.x := by omega
      by_cases h4 : a.y < b.y
      · simp [h3, h4]
      · by_cases h5 : b.y < a.y <;> simp [h3, h4, h5]
theorem swoK : SWO (ltOf cpK) where
  irrefl x := by rw [ltOf_cpK]; simp [ltK]
  trans x y z h1 h2 := by rw [ltOf_cpK] at *; simp only [ltK, decide_eq_true_eq] at *; omega
  ntrans x y z h1 h2 := by rw [ltOf_cpK] at *; simp only [ltK, decide_eq_false_iff_not] at *; omega

theorem cmpLaysK (blk off size : Nat) (w : World) : CmpLays Try.prog 84 #[] k2F 2 cpK blk off size w :=
  fun _ _ _ _ x y => compareKeys_any x y _

theorem holdsK_of {lo hi b off : Nat} {w : World} {ss : List K2} (h : SlIn k2F 2 lo hi w (some ⟨b, off, none⟩) ss) : HoldsK k2F 2 w b off ss.toArray := by
  intro t ht
  rw [size_flatK] at ht
  rw [get_flatK _ _ _ _ ht]
  have hs : t / 2 < ss.length := by simp at ht; omega
  rcases h with rfl | ⟨b', off', e, _, _, hc⟩
  · simp at hs
  · cases e
    have := hc (t / 2) ss[t / 2] (by simp [hs]) (t % 2) (k2F ss[t / 2])[t % 2]! (by
      have : t % 2 < (k2F ss[t / 2]).length := by rw [k2F_len]; omega
      simp [this])
    rw [show off + t / 2 * 2 + t % 2 = off + t by omega] at this
    rw [show ss.toArray[t / 2]! = ss[t / 2] by simp [hs]]
    exact this

theorem slIn_of {b off lo : Nat} {w : World} {d : Array K2} (h : HoldsK k2F 2 w b off d) (hl : lo ≤ b) (hb : b < w.heap.size) : SlIn k2F 2 lo w.heap.size w (some ⟨b, off, none⟩) d.toList := by
  refine .inr ⟨b, off, rfl, hl, hb, fun i x hx j u hu => ?_⟩
  have hi : i < d.size := by have := (List.getElem?_eq_some_iff.1 hx).1; simpa using this
  have hj : j < 2 := by have := (List.getElem?_eq_some_iff.1 hu).1; rw [k2F_len] at this; exact this
  have e : d[i]! = x := by
    have := (List.getElem?_eq_some_iff.1 hx).2
    simp [hi] at this ⊢
    exact this
  have hh := h.cell hi hj
  rw [e] at hh
  have e2 : (k2F x)[j]! = u := by
    have := (List.getElem?_eq_some_iff.1 hu).2
    have hj2 : j < (k2F x).length := by rw [k2F_len]; exact hj
    simp [hj2]
    exact this
  rw [e2] at hh
  exact hh

theorem below_sorted {B b off n : Nat} {w : World} {d : Array K2} {os : Array Obj} (hB : B ≤ b) (hb : B ≤ w.heap.size) : Below B w (sortWorldK k2F 2 w b off n d os) := by
  unfold sortWorldK putRowK putRow mapBlock grow Go.Sort.ahead
  refine ⟨rfl, rfl, rfl, by simp, fun k hk => ?_⟩
  simp only
  rw [Array.getElem?_append_left (by simp; omega), Array.getElem?_modify, if_neg (by omega)]

/-- A list of keys in their order. -/
def Rise (ys : List K2) : Prop := ys.Pairwise fun a b => ltK b a = false

theorem sort_some (b off cap lo : Nat) (ss : List K2) (w : World) (h : SlIn k2F 2 lo w.heap.size w (some ⟨b, off, none⟩) ss) (hne : ss ≠ []) (hn : ss.length < 4611686018427387904) :
    Calls Try.prog 107 #[.slice (some ⟨b, off, none⟩) ss.length cap, .func (.func 84) #[] #[]] w fun e w' => e = .returned (.tuple #[]) ∧ ∃ ys, ys.Perm ss ∧ Rise ys ∧ Below lo w w' ∧ SlIn k2F 2 lo w'.heap.size w' (some ⟨b, off, none⟩) ys := by
  have eg : ∀ args w, (callFunc 84 args).run Try.prog w = .ok (.enter 84 args) w := enters_of Try.func84 (by kernel_rfl) rfl
  obtain ⟨hlo, hbs⟩ : lo ≤ b ∧ b < w.heap.size := by
    rcases h with h | ⟨b', off', e, h1, h2, _⟩
    · exact absurd h hne
    · cases e; exact ⟨h1, h2⟩
  have hH := holdsK_of h
  have hcon := AnyQ.slices_SortFunc Try.sortK 2 Try.isAgg73 Try.sizeOf73 k2F k2F_len (fun x v hv => by simp [k2F] at hv; rcases hv with rfl | rfl <;> rfl) cpK swoK 84 #[] b off cap ss.toArray w eg (cmpLaysK b off _ w) hH hbs (by simp; omega)
  change Calls Try.prog 107 _ _ _ at hcon
  rw [List.size_toArray] at hcon
  refine hcon.mono ?_
  rintro e w' ⟨rfl, d', n, os, ⟨hp1, _, hp3⟩, hs, rfl⟩
  have hd : d'.size = ss.length := by simpa using hp1
  refine ⟨rfl, d'.toList, ?_, ?_, below_sorted hlo (by omega), ?_⟩
  · rw [Array.extract_eq_self_of_le (by omega)] at hp3
    simpa using hp3
  · refine List.pairwise_iff_getElem.2 fun i j hi hj hij => ?_
    have := hs i j (Nat.zero_le _) hij (by simp at hj; omega)
    rw [ltOf_cpK] at this
    simp at hi hj
    rw [getElem!_pos d' i hi, getElem!_pos d' j hj] at this
    simpa using this
  · refine slIn_of ?_ hlo ?_
    · unfold sortWorldK
      refine holdsK_grow _ _ _ _ _ _ _ ?_ (holdsK_putRowK _ _ _ _ _ ss.toArray _ hH (by simpa using hd))
      unfold putRowK
      rw [size_putRow]
      exact hbs
    · have := (below_sorted (B := lo) (b := b) (off := off) (n := n) (d := d') (os := os) hlo (w := w) (by omega)).size
      omega

set_option maxHeartbeats 1000000 in
theorem insertion_none (p : Option Addr) (cap : Nat) (fv : Value) (w : World) : Calls Try.prog 137 #[.slice p 0 cap, .int .i64 0, .int .i64 0, fv] w fun e w' => e = .returned (.tuple #[]) ∧ w' = w := by
  go_enter Try.func137, Try.ntmps137
  go_wp2_with fail
  refine wp_loop_rounds 1 ?_
  rw [rounds_succ]
  go_wp2_with fail
  go_end0
  exact ⟨rfl, rfl⟩

set_option maxRecDepth 20000 in
set_option maxHeartbeats 1000000 in
theorem pdq_none (p : Option Addr) (cap : Nat) (lim : Int) (fv : Value) (w : World) : Calls Try.prog 129 #[.slice p 0 cap, .int .i64 0, .int .i64 0, .int .i64 lim, fv] w fun e w' => e = .returned (.tuple #[]) ∧ w' = w := by
  go_enter Try.func129, Try.ntmps129
  go_wp2_with fail
  refine wp_loop_rounds 1 ?_
  rw [rounds_succ]
  go_wp2_with (go_at_call 137; refine (insertion_none _ _ _ _).mono ?_; rintro e w' ⟨rfl, rfl⟩)
  (try simp only [Exit.inBlock, Exit.then]); refine bodyPost_ret (results_none rfl _ _ _) rfl ?_
  exact ⟨rfl, rfl⟩

set_option maxHeartbeats 1000000 in
theorem sort_none (p : Option Addr) (cap : Nat) (fv : Value) (w : World) : Calls Try.prog 107 #[.slice p 0 cap, fv] w fun e w' => e = .returned (.tuple #[]) ∧ w' = w := by
  have hl : ∀ W, Calls Try.prog 130 #[.int .u64 0] W fun e w' => e = .returned (.int .i64 (Lib.bitLen 0 : Nat)) ∧ w' = W := fun W => by
    have h := Any.bits_Len (SlLaysF0.n15.bits (P := Try.prog) (ρ := Try.sortK_ren) { Try.sortK with }) 0 W (by omega) (by omega)
    exact h
  go_enter Try.func107, Try.ntmps107
  go_wp2_with (first | (go_at_call 130; refine (hl _).mono ?_; rintro e w' ⟨rfl, rfl⟩) | (go_at_call 129; refine (pdq_none _ _ _ _ _).mono ?_; rintro e w' ⟨rfl, rfl⟩))
  go_end0
  exact ⟨rfl, rfl⟩

theorem sort_any (a : Option Addr) (cap lo : Nat) (ss : List K2) (w : World) (h : SlIn k2F 2 lo w.heap.size w a ss) (hn : ss.length < 4611686018427387904) :
    Calls Try.prog 107 #[.slice a ss.length cap, .func (.func 84) #[] #[]] w fun e w' => e = .returned (.tuple #[]) ∧ ∃ ys, ys.Perm ss ∧ Rise ys ∧ Below lo w w' ∧ SlIn k2F 2 lo w'.heap.size w' a ys := by
  by_cases hne : ss = []
  · subst hne
    refine (sort_none a cap _ w).mono ?_
    rintro e w' ⟨rfl, rfl⟩
    exact ⟨rfl, [], List.Perm.refl _, List.Pairwise.nil, Below.refl _ _, .inl rfl⟩
  · rcases h with h | ⟨b, off, rfl, h1, h2, hc⟩
    · exact absurd h hne
    · exact sort_some b off cap lo ss w (.inr ⟨b, off, rfl, h1, h2, hc⟩) hne hn

set_option maxHeartbeats 1000000 in
theorem sorted_any (gf : Nat) (lb : Array Value) (S : List K2 → Prop) (N : Nat) (w : World) (hN : N ≤ 100000)
    (hgf : ∀ args w, (callFunc gf args).run Try.prog w = .ok (.enter gf args) w)
    (hseq : ∀ W, Below w.heap.size w W → SeqStops Fence.wide 9 Try.prog gf lb k2E S (fun _ => True) N W) (hS : ∀ ss, S ss → ss.length ≤ 100000) :
    Calls Try.prog 82 #[.func (.func gf) #[] lb, .func (.func 84) #[] #[]] w fun e w' => ∃ a ys c ss, e = .returned (.slice a ys.length c) ∧ S ss ∧ ys.Perm ss ∧ Rise ys ∧ Below w.heap.size w w' ∧ SlIn k2F 2 w.heap.size w'.heap.size w' a ys := by
  go_enter Try.func82, Try.ntmps82
  go_wp2_with fail
  refine (collect_any gf lb S N _ hN hgf hseq).mono ?_
  rintro e w1 ⟨v, ss, rfl, hs, g, ho⟩
  obtain ⟨a, c, rfl, _, hin, _⟩ := SlIn.ofRow k2F_len ho
  have hl := hS ss hs
  clear ho
  have hcon := sort_any a c w.heap.size ss w1 hin (by omega)
  go_wp2_with (go_at_call 107; refine hcon.mono ?_)
  rintro e w2 ⟨rfl, ys, hp, hr, g2, hi2⟩
  go_wp2_with fail
  go_ret
  refine ⟨a, ys, c, ss, ?_, hs, hp, hr, g.trans g2, hi2⟩
  rw [hp.length_eq]
  rfl

theorem nodup_le {α : Type} [BEq α] [LawfulBEq α] : ∀ (xs ys : List α), xs.Nodup → (∀ x, x ∈ xs → x ∈ ys) → xs.length ≤ ys.length
  | [], _, _, _ => by simp
  | x :: xs, ys, hd, hs => by
    have h1 := List.nodup_cons.1 hd
    have := nodup_le xs (ys.erase x) h1.2 (fun y hy => (List.mem_erase_of_ne (show y ≠ x from fun e => h1.1 (e ▸ hy))).2 (hs y (by simp [hy])))
    rw [List.length_erase_of_mem (hs x (by simp))] at this
    have hp : 0 < ys.length := List.length_pos_of_mem (hs x (by simp))
    simp only [List.length_cons]
    omega

def k2P (x : K2) : Int × Int := (x.x, x.y)
theorem k2P_inj {x y : K2} (h : k2P x = k2P y) : x = y := by
  cases x; cases y
  simp only [k2P, Prod.mk.injEq] at h
  obtain ⟨rfl, rfl⟩ := h
  rfl
theorem k2P_nodup {ss : List K2} (h : ss.Nodup) : (ss.map k2P).Nodup := List.Pairwise.map _ (fun a b hab e => hab (k2P_inj e)) h

/-- What risingKeys hands back. -/
def RkPost (l : List ((Int × Int) × Value)) (w : World) (e : Ending) (w' : World) : Prop :=
  ∃ a ys c, e = .returned (.slice a ys.length c) ∧ Below w.heap.size w w' ∧ SlIn k2F 2 w.heap.size w'.heap.size w' a ys ∧ Rise ys ∧ ys.Nodup ∧ ∀ x : K2, x ∈ ys ↔ k2P x ∈ l.map (·.1)

set_option maxHeartbeats 1000000 in
theorem risingP_any (b sz : Nat) (l : List ((Int × Int) × Value)) (w : World) (h : MapK 73 w b l sz) (hl : l.length ≤ 100000) :
    Calls Try.prog 46 #[.map (some b)] w fun e w' => RkPost l w e w' := by
  obtain ⟨D, ho, hs, _, hh⟩ := h.1.has
  have hsz := h.2.1
  have hbl := ho.lt
  have hmem : ∀ x : K2, Maps.has D (k2L x) = true ↔ k2P x ∈ l.map (·.1) := fun x => by
    rw [show k2L x = kl x.x x.y from rfl, hh x.x x.y x.h]
    exact kvF_some l x.x x.y
  clear h hh
  go_enter Try.func46, Try.ntmps46
  go_wp2_with fail
  refine (keysP_box b _).mono ?_
  rintro e w1 ⟨rfl, g1, hc⟩
  have ho1 : w1.ownsMap Try.prog 73 hR b sz D := by
    obtain ⟨es, clock, hb, Ft, hs', hD⟩ := ho
    exact ⟨es, clock, (g1.block b hbl).trans hb, Ft, hs', hD⟩
  have hcl := World.block_lt_of_cell? w1 _ hc
  have hcon := sorted_any 108 #[.pointer (some ⟨w.heap.size, 0, none⟩)] (fun ss => ss.Nodup ∧ ∀ x, x ∈ ss ↔ Maps.has D (k2L x) = true) (Maps.size D) w1 (by omega)
    (enters_of Try.func108 (by kernel_rfl) rfl)
    (fun W hW => keysP_stops Fence.wide 9 trivial rfl (by omega) w.heap.size b sz D W (Nat.lt_of_lt_of_le hcl hW.size) ((hW.cell hcl).trans hc) (by
      obtain ⟨es, clock, hb, Ft, hs', hD⟩ := ho1
      exact ⟨es, clock, (hW.block b (by have := g1.size; omega)).trans hb, Ft, hs', hD⟩))
    (fun ss hss => by
      have h1 := nodup_le (ss.map k2P) (l.map (·.1)) (k2P_nodup hss.1) (fun q hq => by
        obtain ⟨x, hx, rfl⟩ := List.mem_map.1 hq
        exact (hmem x).1 ((hss.2 x).1 hx))
      simp only [List.length_map] at h1
      omega)
  go_wp2_with (go_at_call 82; refine hcon.mono ?_)
  rintro e w2 ⟨a, ys, c, ss, rfl, hss, hp, hr, g2, hi2⟩
  go_wp2_with fail
  go_ret
  have hs1 := g1.size
  refine ⟨a, ys, c, rfl, g1.trans (g2.mono hs1), hi2.mono hs1 (Nat.le_refl _), hr, hp.nodup_iff.2 hss.1, fun x => ?_⟩
  rw [hp.mem_iff, hss.2, hmem]

end Go.Proofs.Ytcadkclppejdgaa

/-
  The program's RowsIn: the rows that are seen, in the order of their keys.
-/
namespace Go.Proofs.Ytcadkclppejdgaa
open Go.RowKit Go.Maps
set_option linter.unusedVariables false

theorem elW : ElT 28 35 rwE 4 40 where
  und := Try.underlying28
  inf := by obtain ⟨i, h1, h2, h3, h4⟩ := info35; exact ⟨i, _, h1, h2, h3, h4, rfl⟩
  len := rwE_len
  one := by intro x u hu; simp [rwE] at hu; rcases hu with rfl | rfl | rfl | rfl <;> rfl
  pos := by decide
  few := by decide

/-- One row ahead of another. -/
def rLt (a b : Rw) : Prop := a.t < b.t ∨ (a.t = b.t ∧ a.k < b.k)
/-- rs: all rows that are seen, rising. -/
def RowsOrd (ps : List (List Int)) (rs : List Rw) : Prop := rs.Perm ((seenL ps).map (·.r)) ∧ rs.Pairwise rLt

theorem RowsOrd.unique {ps : List (List Int)} {rs rs' : List Rw} (h : RowsOrd ps rs) (h' : RowsOrd ps rs') : rs = rs' := by
  refine List.Perm.eq_of_pairwise (le := rLt) (fun a b _ _ h1 h2 => ?_) h.2 h'.2 (h.1.trans h'.1.symm)
  unfold rLt at h1 h2
  omega

/-- The row of a key. -/
def rowK (ps : List (List Int)) (x : K2) : Rw := ((fnd ps x.x x.y).getD (rp 0)).r

theorem rowK_at {ps : List (List Int)} {x : K2} (h : k2P x ∈ (seenKV ps).map (·.1)) : ∃ y, y ∈ seenL ps ∧ fnd ps x.x x.y = some y ∧ rowK ps x = y.r ∧ y.r.t = x.x ∧ y.r.k = x.y := by
  obtain ⟨q, hq, e⟩ := List.mem_map.1 h
  obtain ⟨z, hz, rfl⟩ := List.mem_map.1 hq
  unfold plK k2P at e
  simp only [Prod.mk.injEq] at e
  cases hf : fnd ps x.x x.y with
  | none =>
    unfold fnd at hf
    have := List.find?_eq_none.1 hf z hz
    simp [e.1, e.2] at this
  | some y =>
    have hf' := hf
    unfold fnd at hf
    have h1 := List.mem_of_find?_eq_some hf
    have h2 := List.find?_some hf
    simp at h2
    refine ⟨y, h1, rfl, ?_, h2.1, h2.2⟩
    unfold rowK
    rw [hf']
    rfl

theorem rw_ext : ∀ {a b : Rw}, a.t = b.t → a.k = b.k → a.v = b.v → a.s = b.s → a = b := by
  rintro ⟨_, _, _, _⟩ ⟨_, _, _, _⟩ rfl rfl rfl rfl
  rfl

theorem rise_lt {ys : List K2} (h : Rise ys) (hd : ys.Nodup) : ys.Pairwise fun a b => ltK a b = true := by
  refine List.Pairwise.imp₂ (R := fun a b : K2 => ltK b a = false) (S := fun a b => a ≠ b) (fun a b h1 h2 => ?_) h hd
  unfold ltK at *
  simp only [decide_eq_false_iff_not, decide_eq_true_eq] at *
  have : ¬ (a.x = b.x ∧ a.y = b.y) := fun e => h2 (k2P_inj (by unfold k2P; rw [e.1, e.2]))
  omega

theorem rowsOrd_of {ps : List (List Int)} {ys : List K2} (hnd : ((seenKV ps).map (·.1)).Nodup) (hkw : ∀ y ∈ seenL ps, Kw y.r.t y.r.k) (hr : Rise ys) (hd : ys.Nodup) (hm : ∀ x : K2, x ∈ ys ↔ k2P x ∈ (seenKV ps).map (·.1)) : RowsOrd ps (ys.map (rowK ps)) := by
  have hL := rise_lt hr hd
  have hkeys : ∀ x ∈ ys, (rowK ps x).t = x.x ∧ (rowK ps x).k = x.y := fun x hx => by
    obtain ⟨y, _, _, e, e1, e2⟩ := rowK_at ((hm x).1 hx)
    rw [e]; exact ⟨e1, e2⟩
  have hP : (ys.map (rowK ps)).Pairwise rLt := by
    rw [List.pairwise_map]
    refine hL.imp_of_mem (fun {a b} ha hb h => ?_)
    unfold ltK at h
    simp only [decide_eq_true_eq] at h
    obtain ⟨a1, a2⟩ := hkeys a ha
    obtain ⟨b1, b2⟩ := hkeys b hb
    unfold rLt
    rw [a1, a2, b1, b2]
    exact h
  refine ⟨?_, hP⟩
  have nd1 : (ys.map (rowK ps)).Nodup := hP.imp (fun {a b} h e => by subst e; unfold rLt at h; omega)
  have hkm : (seenKV ps).map (·.1) = (seenL ps).map (fun y => (y.r.t, y.r.k)) := by unfold seenKV; rw [List.map_map]; rfl
  have nd2 : ((seenL ps).map (·.r)).Nodup := by
    rw [hkm] at hnd
    have h1 := List.pairwise_map.1 hnd
    exact List.pairwise_map.2 (h1.imp (fun {a b} h e => h (by rw [e])))
  refine (List.perm_ext_iff_of_nodup nd1 nd2).2 fun r => ⟨fun h => ?_, fun h => ?_⟩
  · obtain ⟨x, hx, rfl⟩ := List.mem_map.1 h
    obtain ⟨y, hy, _, e, _⟩ := rowK_at ((hm x).1 hx)
    exact List.mem_map.2 ⟨y, hy, e.symm⟩
  · obtain ⟨y, hy, rfl⟩ := List.mem_map.1 h
    have hmem : (y.r.t, y.r.k) ∈ (seenKV ps).map (·.1) := by rw [hkm]; exact List.mem_map.2 ⟨y, hy, rfl⟩
    have hx := (hm ⟨y.r.t, y.r.k, hkw y hy⟩).2 hmem
    refine List.mem_map.2 ⟨_, hx, ?_⟩
    have hv : kvF (seenKV ps) y.r.t y.r.k = some (plV y) := kvF_mem hnd (List.mem_map.2 ⟨y, hy, rfl⟩)
    obtain ⟨z, hz, hf, e, e1, e2⟩ := rowK_at hmem (x := ⟨y.r.t, y.r.k, hkw y hy⟩)
    rw [e]
    have hv2 : kvF (seenKV ps) y.r.t y.r.k = some (plV z) := kvF_mem hnd (List.mem_map.2 ⟨z, hz, by unfold plK; rw [e1, e2]⟩)
    rw [hv] at hv2
    simp only [Option.some.injEq, plV, Value.agg.injEq, Array.mk.injEq, List.cons.injEq, Value.int.injEq, Value.string.injEq, true_and, and_true] at hv2
    obtain ⟨_, _, _, q1, q2, q3, q4⟩ := hv2
    exact rw_ext q1.symm q2.symm q3.symm q4.symm

theorem field37 (q p s t k v : Int) (x : ByteArray) (W : World) : (Instr.field 37 (.agg #[.int .i64 q, .int .i64 p, .int .i64 s, .int .i64 t, .int .i64 k, .int .i64 v, .string x]) 3).run Try.prog W = .ok (.agg #[.int .i64 t, .int .i64 k, .int .i64 v, .string x]) W := by kernel_rfl

structure RsO (w : World) (b : Nat) : Prop where
  c0 : w.cell? ⟨b, 0, none⟩ = some (.int .i64 0)
  c1 : w.cell? ⟨b, 1, none⟩ = some (.slice none 0 0)
  f0 : w.frozen? ⟨b, 0, none⟩ = false
  f1 : w.frozen? ⟨b, 1, none⟩ = false
theorem RsO.below {w w' : World} {b : Nat} (h : RsO w b) {B : Nat} (hb : Below B w w') (hl : b < B) : RsO w' b :=
  ⟨(hb.cell (p := ⟨b, 0, none⟩) hl).trans h.c0, (hb.cell (p := ⟨b, 1, none⟩) hl).trans h.c1, (hb.frozen (p := ⟨b, 0, none⟩) hl).trans h.f0, (hb.frozen (p := ⟨b, 1, none⟩) hl).trans h.f1⟩
theorem RsO.new (w : World) : RsO (w.alloc (.cells #[.int .i64 0, .slice none 0 0] 30)) w.heap.size :=
  ⟨by simp [go_sem], by simp [go_sem], by simp [go_sem], by simp [go_sem]⟩

theorem Rs.k2 {w : World} {a : Option Addr} {ys : List K2} (h : Rs k2F 2 w a ys) {i : Nat} {x : K2} (hx : ys[i]? = some x) : ∃ b off, a = some ⟨b, off, none⟩ ∧ w.cell? ⟨b, off + i * 2, none⟩ = some (.int .i64 x.x) ∧ w.cell? ⟨b, off + i * 2 + 1, none⟩ = some (.int .i64 x.y) := by
  rcases h with h | ⟨b, off, ha, hc⟩
  · rw [h] at hx; simp at hx
  · exact ⟨b, off, ha, hc i x hx 0 _ rfl, hc i x hx 1 _ rfl⟩

/-- What RowsIn answers. -/
def RiPost (ps : List (List Int)) (w : World) (e : Ending) (w' : World) : Prop :=
  ∃ v rs, e = .returned (.agg #[.int .i64 (viewQ ps), v]) ∧ Below w.heap.size w w' ∧ w'.ownsRow w.heap.size 35 4 v rs.length (flat rwE rs) ∧ (viewQ ps = 0 → RowsOrd ps rs) ∧ (viewQ ps ≠ 0 → rs = [])

set_option maxRecDepth 20000 in
set_option maxHeartbeats 4000000 in
theorem implRowsIn_any (a : Option Addr) (ps : List (List Int)) (n c : Nat) (w : World) (hn : ps.length = n) (hm : n ≤ 9223372036854775807) (hp : PgOk ps) (hr : PgRead w a ps) :
    Calls Try.prog 15 #[.slice a n c] w fun e w' => RiPost ps w e w' := by
  have hO := RsO.new w
  have gX : Below w.heap.size w (w.alloc (.cells #[.int .i64 0, .slice none 0 0] 30)) := by go_grown
  have hlX : w.heap.size < (w.alloc (.cells #[.int .i64 0, .slice none 0 0] 30)).heap.size := by simp
  obtain ⟨X, hX0⟩ : ∃ X, w.alloc (.cells #[.int .i64 0, .slice none 0 0] 30) = X := ⟨_, rfl⟩
  rw [hX0] at hO gX hlX
  have hr := hr.below gX (Nat.le_refl _)
  obtain ⟨hok, hl200⟩ := allL_ok hp
  have HPo : Hid (∀ y ∈ seenL ps, Kw y.r.t y.r.k) := fun y hy => kw_small (plF_ok hok y hy).1 (plF_ok hok y hy).2.1
  have HLen : Hid ((seenKV ps).length ≤ 1000) := by
    show _ ≤ _
    have := plF_len (mvF (allL ps)) (allL ps)
    unfold seenKV seenL
    rw [List.length_map]
    omega
  clear hok hl200
  go_enter Try.func15, Try.ntmps15
  go_wp2_with fail
  refine (viewOf_any a ps n c _ hn hm hp hr).mono ?_
  rintro e w1 ⟨m, rfl, g1, hv⟩
  have hO := hO.below g1 hlX
  have hlX := Nat.lt_of_lt_of_le hlX g1.size
  have g := gX.trans (g1.mono gX.size)
  have HV : Hid (viewQ ps = 0 → ∃ b sz, m = some b ∧ MapK 73 w1 b (seenKV ps) sz) := hv
  clear hr g1 gX hX0 hp hv
  obtain ⟨q, hq⟩ : ∃ q, q = viewQ ps := ⟨_, rfl⟩
  have HQ : Hid (viewQ ps = q) := hq.symm
  rw [← hq]
  clear hq
  by_cases hq0 : q = 0
  · subst hq0
    obtain ⟨b, sz, rfl, hK⟩ := HV.out HQ.out
    have HN : Hid (((seenKV ps).map (·.1)).Nodup) := (viewQ_nodup HQ.out).2.2
    clear HV
    go_wp2_with fail
    refine (risingP_any b sz (seenKV ps) _ hK (by have := HLen.out; omega)).mono ?_
    rintro e w2 ⟨ka, ys, kc, rfl, g2, hI, hR, hD, hM⟩
    have HO : Hid (RowsOrd ps (ys.map (rowK ps))) := rowsOrd_of HN.out HPo.out hR hD hM
    have HM : Hid (∀ x ∈ ys, k2P x ∈ (seenKV ps).map (·.1)) := fun x hx => (hM x).1 hx
    have HL : Hid (ys.length ≤ 1000) := by
      have h1 := nodup_le (ys.map k2P) ((seenKV ps).map (·.1)) (k2P_nodup hD) (fun q hq => by
        obtain ⟨x, hx, rfl⟩ := List.mem_map.1 hq
        exact (hM x).1 hx)
      simp only [List.length_map] at h1
      exact Nat.le_trans h1 HLen.out
    have hO := hO.below g2 hlX
    have hbl := hK.1.lt
    have hK := hK.below g2
    have hI := hI.reads
    have hs0 := g.size
    have hs2 := g2.size
    have g := g.trans (g2.mono g.size)
    have HI : Hid (Rs k2F 2 w2 ka ys) := hI
    clear hR hD hM hI g2
    obtain ⟨nn, hnn⟩ : ∃ nn, ys.length = nn := ⟨_, rfl⟩
    have HNN : Hid (ys.length = nn) := hnn
    have hn9 : nn ≤ 1000 := by rw [← hnn]; exact HL.out
    rw [hnn]
    clear hnn HL
    have HKx : Hid (MapK 73 w2 b (seenKV ps) sz) := hK
    clear hK
    go_wp2_with fail
    go_loopw [20, 5] (fun i v wr => ∃ j : Nat, j ≤ nn ∧ i = .int .i64 j ∧ Below w2.heap.size w2 wr ∧ wr.ownsRow w2.heap.size 35 4 v ((ys.take j).map (rowK ps)).length (flat rwE ((ys.take j).map (rowK ps)))) (fun i _ _ => nn - (intOf i).toNat)
    case atStart => exact ⟨0, Nat.zero_le _, rfl, Below.refl _ _, ownsRow_nil _ _ _ _⟩
    case round =>
      obtain ⟨j, hj, rfl, gr, ho⟩ := hrel
      by_cases hlt : j < nn
      · obtain ⟨x, hx⟩ : ∃ x, ys[j]? = some x := ⟨_, List.getElem?_eq_getElem (by rw [HNN.out]; exact hlt)⟩
        obtain ⟨kb, ko, rfl, k0, k1⟩ := HI.out.k2 hx
        have hkl := World.block_lt_of_cell? _ _ k0
        have k0 := (gr.cell hkl).trans k0
        have k1 := (gr.cell (p := ⟨kb, ko + j * 2 + 1, none⟩) hkl).trans k1
        have hxm := List.mem_of_getElem? hx
        obtain ⟨y, hy, hf, hrk, hyt, hyk⟩ := rowK_at (HM.out x hxm)
        have hKr := HKx.out.below gr
        have hl := fun (V : World) (hV : Below wr.heap.size wr V) => (hKr.below hV).1.look keyT73 Try.underlying65 (Try.zeroValue37 V) x.h
        rw [fnd_kv HN.out, hf] at hl
        simp only [Option.map_some, Option.getD_some, plV, kv] at hl
        have hjn : (j : Int) < (nn : Int) := by omega
        have HT : Hid ((ys.take (j + 1)).map (rowK ps) = (ys.take j).map (rowK ps) ++ [y.r]) := by show _ = _; rw [take_snoc hx, List.map_append, List.map_singleton, hrk]
        have hlen : ((ys.take j).map (rowK ps)).length + 1 ≤ 100000000 := by rw [List.length_map, List.length_take]; omega
        have HL2 : Hid (∀ V, Below wr.heap.size wr V → _) := hl
        clear hx hxm hl hf hrk hy hKr
        generalize (ys.take j).map (rowK ps) = rs at ho HT hlen
        obtain ⟨yq, yp, ysl, yt, yk, yv, yst⟩ := y
        obtain ⟨xt, xk, xh⟩ := x
        dsimp only at hyt hyk HT k0 k1 HL2
        subst hyt
        subst hyk
        have hgs := gr.size
        go_upto_region 8 with (fail)
        generalize hY : World.alloc _ _ = Y
        have gY : Below wr.heap.size wr Y := by rw [← hY]; go_grown
        have y0 : Y.cell? ⟨wr.heap.size, 0, none⟩ = some (.int .i64 yt) := by rw [← hY]; simp [go_sem]
        have y1 : Y.cell? ⟨wr.heap.size, 1, none⟩ = some (.int .i64 yk) := by rw [← hY]; simp [go_sem]
        have hl := HL2.out Y gY
        have hlow : ∀ k, u5.ownBlock = some k → w2.heap.size ≤ k := fun k hk => (ho.lt k hk).1
        have ho := ownsRow_below ho gY
        have gr := gr.trans (gY.mono gr.size)
        have hgs2 := gr.size
        clear hY gY k0 k1 HL2
        generalize wr.heap.size = cb at y0 y1 ⊢
        have hfd := field37 yq yp ysl yt yk yv yst Y
        go_wp2_with (at_builtin; refine wpList_append_sl elW _ rfl _ _ rfl w2.heap.size _ rs [⟨yt, yk, yv, yst⟩] (some ⟨Y.heap.size, 0, none⟩) 1 1 rfl rfl rfl (ownsRow_below ho (by go_grown)) (rs_one (enc := rwE) Y ⟨yt, yk, yv, yst⟩ 35) hlen (by simp; omega) ?_)
        intro v' w' ho' hg' _
        have ho2 : w'.ownsRow w2.heap.size 35 4 v' ((ys.take (j + 1)).map (rowK ps)).length (flat rwE ((ys.take (j + 1)).map (rowK ps))) := by rw [HT.out, List.length_append]; exact ho'
        have gr2 : Below w2.heap.size w2 w' := Below.grown (gr.trans ((((Below.refl _ Y).alloc (Nat.le_refl _) _)).mono gr.size)) hg' (by simp; omega) hlow
        clear ho' hg' ho y0 y1 hl gr
        go_wp2_with fail
        go_roundw
        case rel => exact ⟨j + 1, by omega, by go_num, gr2, ho2⟩
        case measure => simp [intOf]; omega
      · have hj' : j = nn := by omega
        have hO := hO.below gr (by omega)
        have HR : Hid ((ys.take j).map (rowK ps) = ys.map (rowK ps)) := by show _ = _; rw [List.take_of_length_le (by rw [HNN.out]; omega)]
        have ho : wr.ownsRow w2.heap.size 35 4 u5 (ys.map (rowK ps)).length (flat rwE (ys.map (rowK ps))) := by rw [← HR.out]; exact ho
        clear HR
        subst hj'
        obtain ⟨ra, rc, rfl, _, _, _⟩ := SlIn.ofRow rwE_len ho
        obtain ⟨c0, c1, f0, f1⟩ := hO
        obtain ⟨rn, hrn⟩ : ∃ rn, rn = (ys.map (rowK ps)).length := ⟨_, rfl⟩
        rw [← hrn] at ho ⊢
        have HRN : Hid (rn = (ys.map (rowK ps)).length) := hrn
        clear hrn
        have hgs := gr.size
        go_wp2_with fail
        refine bodyPost_ret (v := .agg #[.int .i64 0, .slice ra rn rc]) (by simp [results, Try.results15, go_sem, *]) rfl ?_
        refine ⟨_, ys.map (rowK ps), by rw [HQ.out], ?_, ?_, fun _ => HO.out, fun h => absurd HQ.out h⟩
        · have g := g.trans (gr.mono g.size)
          go_grown
        · rw [← HRN.out]
          exact ownsRow_base (ownsRow_setCell_below (ownsRow_setCell_below ho (by dsimp only; omega) _) (by dsimp only; omega) _) (by omega)
  · have d : (q != 0) = true := by simpa using hq0
    obtain ⟨c0, c1, f0, f1⟩ := hO
    go_wp2_with fail
    refine bodyPost_ret (v := .agg #[.int .i64 q, .slice none 0 0]) (by simp [results, Try.results15, go_sem, *]) rfl ?_
    exact ⟨_, [], by rw [HQ.out], by go_grown, ownsRow_nil _ _ _ _, fun h => absurd (HQ.out.symm.trans h) hq0, fun _ => rfl⟩

end Go.Proofs.Ytcadkclppejdgaa
