/-
  maps.DeleteFunc over the map of changes, with isNoChange.
-/
import Derived.Test.YtcadkclppejdgaaSOpg
import Derived.Lib.SlMapFilter

namespace Go.Proofs.Ytcadkclppejdgaa
open Go.RowKit Go.Maps
set_option linter.unusedVariables false

def chV (x : Chg) : Value := .agg #[.bool x.was, .int .i64 x.b.t, .int .i64 x.b.k, .int .i64 x.b.v, .string x.b.s, .bool x.is, .int .i64 x.a.t, .int .i64 x.a.k, .int .i64 x.a.v, .string x.a.s]
def chOf : Value → Option Chg
  | .agg cs => (match cs.toList with | [.bool a, .int _ t, .int _ k, .int _ v, .string s, .bool b, .int _ t', .int _ k', .int _ v', .string s'] => some ⟨a, ⟨t, k, v, s⟩, b, ⟨t', k', v', s'⟩⟩ | _ => none)
  | _ => none
theorem chOf_V (x : Chg) : chOf (chV x) = some x := rfl
/-- Whether an element is a change that is none. -/
def pdC (_ : Lit) (d : DataW Value) : Bool := match d with | .held v => (match chOf v with | some x => noB x | none => false) | _ => false

/-- What is left of f. -/
def keepC (f : Int → Int → Option Value) : Int → Int → Option Value := fun x y => match f x y with | some v => (match chOf v with | some c => if noB c = true then none else some v | none => some v) | none => none

theorem at_some {es : List (Lit × DataW Value)} {k : Lit} {d : DataW Value} (hd : d ≠ .nil) (h : ∀ z, (DataW.map es).atKey k z = d) : ∃ p ∈ es, p.1 = k ∧ p.2 = d := by
  have h0 := h .nil
  unfold DataW.atKey at h0
  simp only at h0
  cases hf : es.find? (fun p => p.1.sameKey k) with
  | none => rw [hf] at h0; exact absurd h0.symm hd
  | some p =>
    rw [hf] at h0
    exact ⟨p, List.mem_of_find?_eq_some hf, WideAt.sameKey_eq (show p.1.sameKey k = true by have := List.find?_some hf; simpa using this), h0⟩

theorem at_none {es : List (Lit × DataW Value)} {k : Lit} (h : ∀ p ∈ es, p.1 ≠ k) (z : DataW Value) : (DataW.map es).atKey k z = z := by
  unfold DataW.atKey
  simp only
  cases hf : es.find? (fun p => p.1.sameKey k) with
  | none => rfl
  | some p => exact absurd (WideAt.sameKey_eq (show p.1.sameKey k = true by have := List.find?_some hf; simpa using this)) (h p (List.mem_of_find?_eq_some hf))

theorem owns_size {K : TypeId} {w : World} {b n : Nat} {D : DataW Value} (h : w.ownsMap Try.prog K hR b n D) : size D ≤ n := by
  obtain ⟨es, clock, hb, F, hs, rfl⟩ := h
  simpa [size, length_sorted] using hs

theorem grown_of {w w' : World} (h : Below w.heap.size w w') : w.grownBy w' none := ⟨h.os, h.tape, h.output, h.size, fun k hk _ => h.block k hk⟩

theorem left_f {es : List (Lit × DataW Value)} {f : Int → Int → Option Value} (hap : es.Pairwise (fun p q => p.1 ≠ q.1)) (hk : ∀ x y, Kw x y → WideAt.IsKeyLit (kl x y)) (hch : ∀ x y v, f x y = some v → ∃ c, v = chV c)
    (ha : ∀ x y, Kw x y → ∀ z, (DataW.map es).atKey (kl x y) z = match f x y with | some v => .held v | none => z) : ∀ x y, Kw x y → ∀ z, (Lib.deleteFuncD pdC (DataW.map es)).atKey (kl x y) z = match keepC f x y with | some v => .held v | none => z := by
  intro x y hxy z
  show (DataW.map (es.filter fun p => !pdC p.1 p.2)).atKey (kl x y) z = _
  have h0 := ha x y hxy
  unfold keepC
  cases hf : f x y with
  | none =>
    rw [hf] at h0
    simp only at h0
    refine at_none (fun p hp e => ?_) z
    have hm := (List.mem_filter.1 hp).1
    have := WideAt.atKey_mem .nil (hk x y hxy) hap (by rw [← e]; exact hm)
    have h1 := WideAt.atKey_mem (.held undef) (hk x y hxy) hap (by rw [← e]; exact hm)
    rw [h0] at this h1
    rw [← this] at h1
    cases h1
  | some v =>
    rw [hf] at h0
    simp only at h0
    obtain ⟨c, rfl⟩ := hch x y v hf
    obtain ⟨p, hp, e1, e2⟩ := at_some (by intro h; cases h) h0
    have hpm : (kl x y, DataW.held (chV c)) ∈ es := by rw [← e1, ← e2]; exact hp
    simp only [chOf_V]
    by_cases hn : noB c = true
    · rw [if_pos hn]
      refine at_none (fun q hq e => ?_) z
      obtain ⟨hq1, hq2⟩ := List.mem_filter.1 hq
      have := WideAt.atKey_mem z (hk x y hxy) hap (by rw [← e]; exact hq1)
      rw [h0] at this
      rw [← this] at hq2
      simp [pdC, chOf_V, hn] at hq2
    · rw [if_neg hn]
      exact WideAt.atKey_mem z (hk x y hxy) (hap.filter _) (List.mem_filter.2 ⟨hpm, by simp [pdC, chOf_V, hn]⟩)

set_option maxRecDepth 20000 in
set_option maxHeartbeats 4000000 in
theorem deleteFunc_any (b sz : Nat) (f : Int → Int → Option Value) (w : World) (h : MapF 73 w b f sz) (hch : ∀ x y v, f x y = some v → ∃ c, v = chV c) :
    Calls Try.prog 89 #[.map (some b), .func (.func 90) #[] #[]] w fun e w' => e = .returned (.tuple #[]) ∧ (∃ sz', sz' ≤ sz ∧ MapF 73 w' b (keepC f) sz') ∧ w.grownBy w' (some b) := by
  obtain ⟨D, hown, hsz, ha⟩ := h
  obtain ⟨es0, rfl, hap, hkeys⟩ := hown.entries keyT73.law
  have HLf : Hid (∀ x y, Kw x y → ∀ z, (Lib.deleteFuncD pdC (DataW.map es0)).atKey (kl x y) z = match keepC f x y with | some v => .held v | none => z) := left_f hap (fun x y hxy => keyT73.law.key (keyT73.rd x y hxy)) hch ha
  have HCh : Hid (∀ x y v, f x y = some v → ∃ c, v = chV c) := hch
  have HA : Hid (∀ x y, Kw x y → ∀ z, (DataW.map es0).atKey (kl x y) z = match f x y with | some v => .held v | none => z) := ha
  clear hch ha
  go_enter Try.func89, Try.ntmps89
  go_wp2_with (first
    | (at_range; refine wpList_range_own _ rfl _ 130 rfl 73 97 keyT73.law Try.underlying130 hR b sz _ rfl hown ?_; intro w0 hrg0 hg0 hs0)
    | go_in)
  go_frame
  go_loopw [8] (fun _ wr => ∃ (left : Lit → Bool) (cnt : Nat), wr.ranges Try.prog 73 hR b w.heap.size sz (Fk pdC es0 left) left cnt ∧ w.grownBy wr (some b))
    (fun _ wr => wr.rangeLeft b w.heap.size)
  case atStart => exact ⟨_, _, by rw [Fk_start hkeys]; exact hrg0, hg0.but _⟩
  case round =>
    obtain ⟨left, cnt, hrg, hgw⟩ := hrel
    go_wp2_with (first
      | (at_next; refine wpList_next_ranges _ rfl _ rfl 73 keyT73.law hR id id (fun key _ _ => ⟨key, rfl⟩) (fun v _ _ => ⟨v, rfl⟩) b w.heap.size sz _ _ _ rfl hrg ?_ ?_)
      | go_in)
    · intro _ hl0
      go_wp2_with fail
      go_end0
      have ho := hrg.owns
      rw [Fk_end hl0] at ho
      exact ⟨rfl, ⟨_, owns_size ho, _, owns_tight ho, rfl, HLf.out⟩, hgw⟩
    · intro x c kl0 yd yp w1 cnt1 hkey hlx hv hat hrg1 hlt hg1 hs1 hen
      obtain ⟨rfl, rfl⟩ : yd = .held c ∧ yp = [] := by
        simp only [hR, Option.some.injEq, Prod.mk.injEq] at hv
        exact ⟨hv.1.symm, hv.2.symm⟩
      obtain ⟨k2, hx2⟩ := k2_inv hkey
      have hx2 : x = k2E k2 := hx2
      subst hx2
      have hkl : kl0 = kl k2.x k2.y := by
        have := k2_rd k2
        have hk' : keyOf Try.prog 73 (k2E k2) = some kl0 := hkey
        rw [hk'] at this
        simpa [k2L] using this
      have hc0 : ∃ ch, c = chV ch := by
        obtain ⟨p, hp, e1, e2⟩ := at_some (by intro h; cases h) hat
        have hpm := (List.mem_filter.1 hp).1
        have h1 := WideAt.atKey_mem .nil (keyT73.law.key hkey) hap (k := kl0) (d := .held c) (by rw [← e1, ← e2]; exact hpm)
        rw [hkl, HA.out k2.x k2.y k2.h] at h1
        cases hf : f k2.x k2.y with
        | none => rw [hf] at h1; cases h1
        | some v =>
          rw [hf] at h1
          simp only at h1
          cases h1
          exact HCh.out _ _ _ hf
      obtain ⟨ch, rfl⟩ := hc0
      have hgw1 := hgw.andThen hg1 (fun j hj => by cases hj; exact Or.inl (Nat.le_refl _))
      have hbl := hrg1.owns.lt
      have hrl := hrg1.lt
      have HK : Hid (keyOf Try.prog 73 (k2E k2) = some kl0) := hkey
      have HAt : Hid (∀ zd, (Fk pdC es0 left).atKey kl0 zd = .held (chV ch)) := hat
      have hpd : pdC kl0 (.held (chV ch)) = noB ch := rfl
      obtain ⟨ck, ⟨xt, xk, xv, xs⟩, x5, ⟨yt, yk, yv, ys⟩⟩ := ch
      obtain ⟨kx, ky, kh⟩ := k2
      have hcon := fun W => isNoChange_any kx ky ck xt xk xv xs x5 yt yk yv ys W
      have HCon : Hid (∀ W, Calls Try.prog 90 #[.agg #[.int .i64 kx, .int .i64 ky], .agg #[.bool ck, .int .i64 xt, .int .i64 xk, .int .i64 xv, .string xs, .bool x5, .int .i64 yt, .int .i64 yk, .int .i64 yv, .string ys]] W fun e w' => e = .returned (.bool (noB ⟨ck, ⟨xt, xk, xv, xs⟩, x5, ⟨yt, yk, yv, ys⟩⟩)) ∧ Below W.heap.size W w') := hcon
      clear hcon hv hkl hkey hat
      simp only [k2E, chV] at hen ⊢
      generalize noB ⟨ck, ⟨xt, xk, xv, xs⟩, x5, ⟨yt, yk, yv, ys⟩⟩ = nb at hpd HCon
      go_upto_region 3 with (fail)
      generalize hY : World.alloc _ _ = Y
      have gY : Below w1.heap.size w1 Y := by rw [← hY]; go_grown
      have hs1' : w1.heap.size = wr.heap.size := hs1
      have y0 : Y.cell? ⟨wr.heap.size, 0, none⟩ = some (.int .i64 kx) := by rw [← hY, ← hs1']; simp [go_sem]
      have y1 : Y.cell? ⟨wr.heap.size, 1, none⟩ = some (.int .i64 ky) := by rw [← hY, ← hs1']; simp [go_sem]
      have Z : ChC Y (wr.heap.size + 1) 0 ⟨ck, ⟨xt, xk, xv, xs⟩, x5, ⟨yt, yk, yv, ys⟩⟩ := by rw [← hY, ← hs1']; exact ⟨by simp [go_sem], by simp [go_sem], by simp [go_sem], by simp [go_sem], by simp [go_sem], by simp [go_sem], by simp [go_sem], by simp [go_sem], by simp [go_sem], by simp [go_sem]⟩
      clear hY hen
      generalize wr.heap.size + 1 = cb at Z ⊢
      generalize wr.heap.size = kb at y0 y1 ⊢
      have hkb := World.block_lt_of_cell? _ _ y0
      obtain ⟨z0, z1, z2, z3, z4, z5, z6, z7, z8, z9⟩ := Z
      dsimp only at z0 z1 z2 z3 z4 z5 z6 z7 z8 z9 hkb
      go_wp2_with fail
      refine (HCon.out _).mono ?_
      rintro e w2 ⟨rfl, g2⟩
      have y0 := (g2.cell (p := ⟨kb, 0, none⟩) hkb).trans y0
      have y1 := (g2.cell (p := ⟨kb, 1, none⟩) hkb).trans y1
      have g12 : w1.grownBy w2 none := grown_of (gY.trans (g2.mono gY.size))
      have hrg2 := hrg1.kept g12 (by simp) (by simp)
      have hgw2 := hgw1.andThen g12 (fun j hj => by cases hj)
      clear z0 z1 z2 z3 z4 z5 z6 z7 z8 z9 g2 gY hrg1 hgw1 HCon
      cases nb
      · go_wp2_with fail
        go_roundw
        case rel => exact ⟨_, cnt1, by rw [← Fk_stays hap (keyT73.law.key HK.out) hlx hpd HAt.out]; exact hrg2, hgw2⟩
        case measure => rw [hrg2.left_eq, hrg.left_eq]; exact hlt
      · have hkey : keyOf Try.prog 73 (.agg #[.int .i64 kx, .int .i64 ky]) = some kl0 := HK.out
        have HK2 : Hid (keyOf Try.prog 73 (.agg #[.int .i64 kx, .int .i64 ky]) = some kl0) := hkey
        clear hkey
        go_wp2_with (at_delete; refine wpList_delete_ranges _ rfl _ _ 130 73 rfl 97 keyT73.law Try.underlying130 hR b w.heap.size sz _ _ _ rfl hrg2 _ _ rfl HK2.out ?_; intro w3 cnt3 hrg3 hle hturn; go_frame)
        rw [strike_twice] at hrg3
        go_roundw
        case rel => exact ⟨_, cnt3, by rw [← Fk_struck hap (keyT73.law.key HK.out) hlx hpd HAt.out]; exact hrg3, hgw2.andThen hturn.grown (fun j hj => by cases hj; exact Or.inr rfl)⟩
        case measure => rw [hrg3.left_eq, hrg.left_eq]; omega

end Go.Proofs.Ytcadkclppejdgaa

/-
  Changes between rows, plainly; risingKeys of a map told by a function.
-/
namespace Go.Proofs.Ytcadkclppejdgaa
open Go.RowKit Go.Maps
set_option linter.unusedVariables false

def zR : Rw := ⟨0, 0, 0, ⟨#[]⟩⟩
/-- The row of a key. -/
def fR (rs : List Rw) (x y : Int) : Option Rw := rs.find? fun r => decide (r.t = x) && decide (r.k = y)
/-- The change at a key. -/
def chAt (bs az : List Rw) (x y : Int) : Option Chg := match fR bs x y, fR az x y with
  | none, none => none
  | some b, none => some ⟨true, b, false, zR⟩
  | none, some a => some ⟨false, zR, true, a⟩
  | some b, some a => some ⟨true, b, true, a⟩
def chF (bs az : List Rw) : Int → Int → Option Value := fun x y => (chAt bs az x y).map chV

/-- No two rows of one key. -/
def Uniq (rs : List Rw) : Prop := rs.Pairwise fun a b => ¬ (a.t = b.t ∧ a.k = b.k)

theorem fR_snoc (rs : List Rw) (r : Rw) (x y : Int) : fR (rs ++ [r]) x y = (fR rs x y).or (if r.t = x ∧ r.k = y then some r else none) := by
  unfold fR
  rw [List.find?_append]
  congr 1
  by_cases h : r.t = x ∧ r.k = y
  · simp [h]
  · rw [if_neg h]
    simp only [List.find?_cons, List.find?_nil]
    split
    · rename_i h1; simp at h1; exact absurd h1 h
    · rfl

theorem fR_new {rs : List Rw} {j : Nat} {r : Rw} (hu : Uniq rs) (hx : rs[j]? = some r) : fR (rs.take j) r.t r.k = none := by
  unfold fR
  rw [List.find?_eq_none]
  intro x hx' h
  simp at h
  obtain ⟨i, hi⟩ := List.getElem?_of_mem hx'
  have hij : i < j := by
    have := (List.getElem?_eq_some_iff.1 hi).1
    rw [List.length_take] at this
    omega
  rw [List.getElem?_take, if_pos hij] at hi
  have hil := (List.getElem?_eq_some_iff.1 hi)
  have hjl := (List.getElem?_eq_some_iff.1 hx)
  have := List.pairwise_iff_getElem.1 hu i j hil.1 hjl.1 hij
  rw [hil.2, hjl.2] at this
  exact this h

theorem chF_step1 {bs : List Rw} {j : Nat} {r : Rw} (hu : Uniq bs) (hx : bs[j]? = some r) : upd (chF (bs.take j) []) r.t r.k (some (chV ⟨true, r, false, zR⟩)) = chF (bs.take (j + 1)) [] := by
  funext x y
  unfold upd chF chAt
  rw [take_snoc hx, fR_snoc]
  have hn := fR_new hu hx
  by_cases h : x = r.t ∧ y = r.k
  · obtain ⟨rfl, rfl⟩ := h
    rw [if_pos ⟨rfl, rfl⟩, hn]
    simp [fR]
  · rw [if_neg h, if_neg (fun e => h ⟨e.1.symm, e.2.symm⟩), Option.or_none]

theorem chF_step2 {bs az : List Rw} {j : Nat} {r : Rw} (hu : Uniq az) (hx : az[j]? = some r) : upd (chF bs (az.take j)) r.t r.k (some (chV { (chAt bs (az.take j) r.t r.k).getD ⟨false, zR, false, zR⟩ with is := true, a := r })) = chF bs (az.take (j + 1)) := by
  funext x y
  unfold upd chF
  have hn := fR_new hu hx
  by_cases h : x = r.t ∧ y = r.k
  · obtain ⟨rfl, rfl⟩ := h
    rw [if_pos ⟨rfl, rfl⟩]
    unfold chAt
    rw [take_snoc hx, fR_snoc, hn]
    cases fR bs r.t r.k <;> simp
  · rw [if_neg h]
    unfold chAt
    rw [take_snoc hx, fR_snoc, if_neg (fun e => h ⟨e.1.symm, e.2.symm⟩), Option.or_none]

/-- What is left of the changes. -/
def chK (bs az : List Rw) (x y : Int) : Option Chg := (chAt bs az x y).filter fun c => !noB c
theorem keepC_chF (bs az : List Rw) : keepC (chF bs az) = fun x y => (chK bs az x y).map chV := by
  funext x y
  unfold keepC chF chK
  cases h : chAt bs az x y with
  | none => rfl
  | some c =>
    simp only [Option.map_some, chOf_V, Option.filter]
    by_cases hn : noB c = true
    · simp [hn]
    · simp [hn]

theorem chK_mem {bs az : List Rw} {x y : Int} (h : (chK bs az x y).isSome = true) : (x, y) ∈ bs.map (fun r => (r.t, r.k)) ++ az.map (fun r => (r.t, r.k)) := by
  have key : ∀ (rs : List Rw) (r : Rw), fR rs x y = some r → (x, y) ∈ rs.map (fun r => (r.t, r.k)) := fun rs r hr => by
    unfold fR at hr
    have h1 := List.mem_of_find?_eq_some hr
    have h2 := List.find?_some hr
    simp at h2
    exact List.mem_map.2 ⟨r, h1, by rw [h2.1, h2.2]⟩
  have h0 : chAt bs az x y ≠ none := by
    intro e
    unfold chK at h
    rw [e] at h
    simp at h
  cases h1 : fR bs x y with
  | some r => exact List.mem_append_left _ (key bs r h1)
  | none =>
    cases h2 : fR az x y with
    | some r => exact List.mem_append_right _ (key az r h2)
    | none => exact absurd (by unfold chAt; rw [h1, h2]) h0
theorem chF_some {bs az : List Rw} {x y : Int} {v : Value} (h : chF bs az x y = some v) : ∃ c, v = chV c := by
  unfold chF at h
  obtain ⟨c, _, e⟩ := Option.map_eq_some_iff.1 h
  exact ⟨c, e.symm⟩
def zCh : Chg := ⟨false, zR, false, zR⟩

/-- What risingKeys hands back, of a map told by f. -/
def RfPost (f : Int → Int → Option Value) (w : World) (e : Ending) (w' : World) : Prop :=
  ∃ a ys c, e = .returned (.slice a ys.length c) ∧ Below w.heap.size w w' ∧ SlIn k2F 2 w.heap.size w'.heap.size w' a ys ∧ Rise ys ∧ ys.Nodup ∧ ∀ x : K2, x ∈ ys ↔ (f x.x x.y).isSome = true

set_option maxHeartbeats 1000000 in
theorem risingF_any (b sz : Nat) (f : Int → Int → Option Value) (L : List (Int × Int)) (w : World) (h : MapF 73 w b f sz) (hsz : sz ≤ 100000) (hl : L.length ≤ 100000) (hL : ∀ x y, (f x y).isSome = true → (x, y) ∈ L) :
    Calls Try.prog 91 #[.map (some b)] w fun e w' => RfPost f w e w' := by
  obtain ⟨D, ho, hs, _, hh⟩ := h.has
  have hbl := ho.lt
  have hmem : ∀ x : K2, Maps.has D (k2L x) = true ↔ (f x.x x.y).isSome = true := fun x => by
    rw [show k2L x = kl x.x x.y from rfl, hh x.x x.y x.h]
  clear h hh
  go_enter Try.func91, Try.ntmps91
  go_wp2_with fail
  refine (keysC_box b _).mono ?_
  rintro e w1 ⟨rfl, g1, hc⟩
  have ho1 : w1.ownsMap Try.prog 73 hR b sz D := by
    obtain ⟨es, clock, hb, Ft, hs', hD⟩ := ho
    exact ⟨es, clock, (g1.block b hbl).trans hb, Ft, hs', hD⟩
  have hcl := World.block_lt_of_cell? w1 _ hc
  have hcon := sorted_any 132 #[.pointer (some ⟨w.heap.size, 0, none⟩)] (fun ss => ss.Nodup ∧ ∀ x, x ∈ ss ↔ Maps.has D (k2L x) = true) (Maps.size D) w1 (by omega)
    (enters_of Try.func132 (by kernel_rfl) rfl)
    (fun W hW => keysC_stops Fence.wide 9 trivial rfl (by omega) w.heap.size b sz D W (Nat.lt_of_lt_of_le hcl hW.size) ((hW.cell hcl).trans hc) (by
      obtain ⟨es, clock, hb, Ft, hs', hD⟩ := ho1
      exact ⟨es, clock, (hW.block b (by have := g1.size; omega)).trans hb, Ft, hs', hD⟩))
    (fun ss hss => by
      have h1 := nodup_le (ss.map k2P) L (k2P_nodup hss.1) (fun q hq => by
        obtain ⟨x, hx, rfl⟩ := List.mem_map.1 hq
        exact hL _ _ ((hmem x).1 ((hss.2 x).1 hx)))
      simp only [List.length_map] at h1
      omega)
  go_wp2_with (go_at_call 82; refine hcon.mono ?_)
  rintro e w2 ⟨a, ys, c, ss, rfl, hss, hp, hr, g2, hi2⟩
  go_wp2_with fail
  go_ret
  have hs1 := g1.size
  refine ⟨a, ys, c, rfl, g1.trans (g2.mono hs1), hi2.mono hs1 (Nat.le_refl _), hr, hp.nodup_iff.2 hss.1, fun x => ?_⟩
  rw [hp.mem_iff, hss.2, hmem]

end Go.Proofs.Ytcadkclppejdgaa
