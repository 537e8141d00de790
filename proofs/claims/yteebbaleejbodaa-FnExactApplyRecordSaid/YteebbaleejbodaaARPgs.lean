/-
  Pages in slices: szByteSS, toByteSS, eqByteSS, markByteSS; what came in, opened.
-/
import Derived.Test.YteebbaleejbodaaARApn

namespace Go.Proofs.Yteebbaleejbodaa
open Go.ChangeShapes Go.WideShapes Go.RowKit
set_option linter.unusedVariables false

def szQ (k : Int) (n : Nat) : Int := if k < n then -1 else k - n

set_option maxHeartbeats 400000 in
theorem szByteS_any (a : Option Addr) (n c : Nat) (k : Int) (w : World) (hm : n ≤ 9223372036854775807) (hk0 : 0 ≤ k) (hk1 : k ≤ 1048576) :
    Calls Try.prog 64 #[.slice a n c, .int .i64 k] w fun e w' => e = .returned (.int .i64 (szQ k n)) ∧ w' = w := by
  by_cases h : k < n
  · have d : (k - (n : Int) < 0) := by omega
    have HQ : Hid (szQ k n = -1) := by show _ = _; unfold szQ; rw [if_pos h]
    go_enter Try.func64, Try.ntmps64
    go_wp2_with fail
    go_ret
    exact ⟨by rw [HQ.out]; rfl, rfl⟩
  · have d : ¬ (k - (n : Int) < 0) := by omega
    have HQ : Hid (szQ k n = k - n) := by show _ = _; unfold szQ; rw [if_neg h]
    go_enter Try.func64, Try.ntmps64
    go_wp2_with fail
    go_ret
    exact ⟨by rw [HQ.out]; rfl, rfl⟩

structure IsPages (w : World) (a : Option Addr) (len : Nat) (ps : List (List Int)) : Prop where
  rd : PgRead w a ps
  eq : ps.length = len
  ln : len ≤ 9223372036854775807
  sz : ∀ zs ∈ ps, zs.length ≤ 9223372036854775807 ∧ ∀ z ∈ zs, 0 ≤ z ∧ z ≤ 255

set_option maxHeartbeats 400000 in
theorem szByteSS_any (a : Option Addr) (ps : List (List Int)) (n c : Nat) (w : World) (k : Int) (h : IsPages w a n ps) (hk0 : 0 ≤ k) (hk : k ≤ 1048576) :
    Calls Try.prog 22 #[.slice a n c, .int .i64 k] w fun e w' => (∃ r : Int, e = .returned (.int .i64 r) ∧ r ≤ 1048576 ∧ (0 ≤ r → n ≤ 1048576 ∧ PgOk ps)) ∧ w' = w := by
  obtain ⟨hr, hn, hm, hs⟩ := h
  by_cases h : k < n
  · have d : (k - (n : Int) < 0) := by omega
    go_enter Try.func22, Try.ntmps22
    go_wp2_with fail
    go_ret
    exact ⟨⟨-1, rfl, by omega, by omega⟩, rfl⟩
  · have d : ¬ (k - (n : Int) < 0) := by omega
    have HR : Hid (PgRead w a ps) := hr
    have HS : Hid (∀ zs ∈ ps, zs.length ≤ 9223372036854775807 ∧ ∀ z ∈ zs, 0 ≤ z ∧ z ≤ 255) := hs
    have HN : Hid (ps.length = n) := hn
    clear hn hs hr
    go_enter Try.func22, Try.ntmps22
    go_wp2_with fail
    go_loopw [5, 1] (fun i l wr => ∃ (j : Nat) (m : Int), j ≤ n ∧ i = .int .i64 j ∧ l = .int .i64 m ∧ 0 ≤ m ∧ m ≤ 1048576 ∧ Hid (∀ zs ∈ ps.take j, zs.length ≤ 1048576) ∧ wr = w) (fun i _ _ => n - (intOf i).toNat)
    case atStart => exact ⟨0, _, Nat.zero_le _, rfl, rfl, by omega, by omega, fun x hx => by simp at hx, rfl⟩
    case round =>
      obtain ⟨j, m, hj, rfl, rfl, hm0, hm1, hall, rfl⟩ := hrel
      by_cases hlt : j < n
      · obtain ⟨zs, hzs⟩ := at_lt' (rs := ps) (i := j) (by rw [HN.out]; exact hlt)
        obtain ⟨b, off, x, cx, rfl, e0, hcx, _⟩ := HR.out.page hzs
        have hjn : (j : Int) < (n : Int) := by omega
        have hz1 := (HS.out zs (List.mem_of_getElem? hzs)).1
        have HT : Hid (ps.take (j + 1) = ps.take j ++ [zs]) := take_snoc hzs
        clear hzs
        have hq : szQ m zs.length = -1 ∨ (0 ≤ szQ m zs.length ∧ szQ m zs.length ≤ 1048576 ∧ zs.length ≤ 1048576) := by unfold szQ; split <;> omega
        go_wp2_with fail
        refine (szByteS_any x zs.length cx m _ hz1 hm0 hm1).mono ?_
        rintro e w' ⟨rfl, hw'⟩
        subst w'
        generalize szQ m zs.length = q at hq ⊢
        rcases hq with rfl | ⟨hq0, hq1, hq2⟩
        · go_wp2_with fail
          go_ret
          exact ⟨⟨-1, rfl, by omega, by omega⟩, rfl⟩
        · have dq : ¬ (q < 0) := by omega
          have H2 : Hid (∀ zs ∈ ps.take (j + 1), zs.length ≤ 1048576) := fun y hy => by
            rw [HT.out] at hy
            rcases List.mem_append.1 hy with hy | hy
            · exact hall.out y hy
            · simp at hy; subst hy; exact hq2
          clear HT hall
          go_wp2_with fail
          go_roundw
          case rel => exact ⟨j + 1, q, by omega, by go_num, rfl, hq0, hq1, H2, by simp⟩
          case measure => simp [intOf]; omega
      · have e : j = n := by omega
        subst e
        go_wp2_with fail
        go_ret
        refine ⟨⟨_, rfl, by omega, fun _ => ⟨by omega, fun x hx => ⟨hall.out x (by rw [List.take_of_length_le (by rw [HN.out]; exact Nat.le_refl _)]; exact hx), (HS.out x hx).2⟩⟩⟩, rfl⟩

theorem info63' : (Try.prog.info? 106).map (fun i => (i.zero, i.size, i.bytes)) = some (some (.slice none 0 0), 1, 24) := by kernel_rfl
theorem info63 : ∃ i, Try.prog.info? 106 = some i ∧ i.zero = some (.slice none 0 0) ∧ i.size = 1 ∧ i.bytes = 24 := by
  have h := info63'
  cases hi : Try.prog.info? 106 with
  | none => rw [hi] at h; simp at h
  | some i => rw [hi] at h; simp at h; exact ⟨i, rfl, h.1, h.2.1, h.2.2⟩

/-- Block g holds n pages, of which the first k are there, each in a block of its own. -/
structure PartP (w : World) (g n k : Nat) (ps : List (List Int)) (F : Nat → Nat) : Prop where
  c : ∀ i zs, i < k → ps[i]? = some zs → w.cell? ⟨g, i, none⟩ = some (.slice (some ⟨F i, 0, none⟩) zs.length zs.length) ∧ BytesIn (F i) (F i + 1) w (some ⟨F i, 0, none⟩) zs
  e : ∀ o, o < n → ∃ v, w.cell? ⟨g, o, none⟩ = some v
  f : ∀ o, w.frozen? ⟨g, o, none⟩ = false
  fr : ∀ i, i < k → g < F i ∧ F i ≤ w.heap.size
  ne : ∀ i j zs, i < j → j < k → ps[i]? = some zs → zs ≠ [] → F i < F j

theorem PartP.lt {w : World} {g n k : Nat} {ps : List (List Int)} {F : Nat → Nat} (h : PartP w g n k ps F) {i : Nat} {zs : List Int} (hi : i < k) (hz : ps[i]? = some zs) (hne : zs ≠ []) : F i < w.heap.size := by
  rcases (h.c i zs hi hz).2 with h1 | ⟨b, o, _, h3, h4, hc, _⟩
  · exact absurd h1 hne
  · have h5 : 0 < zs.length := List.length_pos_iff.2 hne
    have h6 : b < w.heap.size := World.block_lt_of_cell? w _ (hc 0 h5)
    omega

theorem PartP.step {w w' : World} {g n k : Nat} {ps : List (List Int)} {F : Nat → Nat} {zs : List Int} (h : PartP w g n k ps F) (hk : k < n) (hz : ps[k]? = some zs) (hg : g < w.heap.size) (hb : Below w.heap.size w w')
    (hy : BytesIn w.heap.size (w.heap.size + 1) w' (some ⟨w.heap.size, 0, none⟩) zs) :
    PartP (w'.setCell ⟨g, k, none⟩ (.slice (some ⟨w.heap.size, 0, none⟩) zs.length zs.length)) g n (k + 1) ps (fun i => if i = k then w.heap.size else F i) := by
  have cc : ∀ o v, w.cell? ⟨g, o, none⟩ = some v → w'.cell? ⟨g, o, none⟩ = some v := fun o v hv => (hb.cell (p := ⟨g, o, none⟩) hg).trans hv
  obtain ⟨v0, d0⟩ := h.e k hk
  have d0 := cc _ _ d0
  refine ⟨fun i ys hi hys => ?_, fun o ho => ?_, fun o => ?_, fun i hi => ?_, fun i j ys hij hj hys hne => ?_⟩
  · by_cases e : i = k
    · subst e
      rw [hz] at hys
      cases hys
      simp only [if_true]
      exact ⟨World.cell?_setCell_same _ _ _ d0, hy.setCell (by simp; omega) _⟩
    · simp only [if_neg e]
      obtain ⟨h1, h2⟩ := h.c i ys (by omega) hys
      refine ⟨by rw [World.cell?_setCell_other _ _ _ _ (fun e' => e (by have := congrArg Addr.off e'; simpa using this.symm))]; exact cc _ _ h1, ?_⟩
      have := h.fr i (by omega)
      exact (h2.below hb).setCell (by simp; omega) _
  · by_cases e : o = k
    · subst e; exact ⟨_, World.cell?_setCell_same _ _ _ d0⟩
    · obtain ⟨v, hv⟩ := h.e o ho
      exact ⟨v, by rw [World.cell?_setCell_other _ _ _ _ (fun e' => e (by have := congrArg Addr.off e'; simpa using this.symm))]; exact cc _ _ hv⟩
  · rw [World.frozen?_setCell]
    exact (hb.frozen (p := ⟨g, o, none⟩) hg).trans (h.f o)
  · rw [World.size_setCell]
    have := hb.size
    by_cases e : i = k
    · subst e; simp only [if_true]; omega
    · simp only [if_neg e]; have := h.fr i (by omega); omega
  · have hik : i < k := by omega
    simp only [if_neg (show ¬ i = k by omega)]
    by_cases e : j = k
    · subst e; simp only [if_true]; exact h.lt hij hys hne
    · simp only [if_neg e]; exact h.ne i j ys hij (by omega) hys hne

theorem PartP.below {w w' : World} {g n k : Nat} {ps : List (List Int)} {F : Nat → Nat} (h : PartP w g n k ps F) (hg : g < w.heap.size) (hb : Below w.heap.size w w') : PartP w' g n k ps F :=
  ⟨fun i zs hi hz => ⟨(hb.cell (p := ⟨g, i, none⟩) hg).trans (h.c i zs hi hz).1, (h.c i zs hi hz).2.below hb⟩, fun o ho => by obtain ⟨v, hv⟩ := h.e o ho; exact ⟨v, (hb.cell (p := ⟨g, o, none⟩) hg).trans hv⟩,
    fun o => (hb.frozen (p := ⟨g, o, none⟩) hg).trans (h.f o), fun i hi => ⟨(h.fr i hi).1, Nat.le_trans (h.fr i hi).2 hb.size⟩, h.ne⟩

theorem PartP.reads {w : World} {g n : Nat} {ps : List (List Int)} {F : Nat → Nat} (h : PartP w g n n ps F) (hn : ps.length = n) : PgRead w (some ⟨g, 0, none⟩) ps := by
  refine .inr ⟨g, 0, rfl, fun i zs hz => ?_⟩
  have hi : i < n := by rw [← hn]; exact (List.getElem?_eq_some_iff.1 hz).1
  obtain ⟨h1, h2⟩ := h.c i zs hi hz
  exact ⟨_, _, by rw [Nat.zero_add]; exact h1, Nat.le_refl _, h2.reads⟩

set_option maxHeartbeats 1000000 in
theorem toByteSS_any (a : Option Addr) (ps : List (List Int)) (n c : Nat) (w : World) (hn : ps.length = n) (hm : n ≤ 1048576) (hp : PgOk ps) (hr : PgRead w a ps) :
    Calls Try.prog 24 #[.slice a n c] w fun e w' => e = .returned (.slice (some ⟨w.heap.size, 0, none⟩) n n) ∧ Below w.heap.size w w' ∧ w.heap.size < w'.heap.size ∧ ∃ F, PartP w' w.heap.size n n ps F := by
  obtain ⟨i0, hi, hz0, hz1, hz2⟩ := info63
  have HN : Hid (ps.length = n) := hn
  have HR : Hid (PgRead w a ps) := hr
  have HP : Hid (PgOk ps) := hp
  clear hn hr hp
  go_enter Try.func24, Try.ntmps24
  go_wp2_with (at_make; refine wpList_make_full _ rfl _ _ 35 rfl w.heap.size 106 i0 (.slice none 0 0) 1 Try.underlying35 hi hz0 hz1 .i64 .i64 _ _ n rfl rfl rfl rfl ?c1 ?c2 (Nat.le_refl _) ?_)
  case c1 => rw [hz2]; omega
  case c2 => unfold maxLen; omega
  intro w1 hown hg
  have hB : Below w.heap.size w w1 := Below.grown (Below.refl _ _) hg (Nat.le_refl _) (fun k hk => by cases hk)
  have hlt1 : w.heap.size < w1.heap.size := (hown.lt w.heap.size (by simp [Value.ownBlock])).2
  have hP : PartP w1 w.heap.size n 0 ps (fun _ => 0) := ⟨fun i zs hi => absurd hi (Nat.not_lt_zero _), fun o ho => ⟨_, by rw [hown.cellAt o (by omega)]; exact List.getElem?_eq_getElem (by simpa [madeCells] using ho)⟩, fun o => hown.frozenAt _, fun i hi => absurd hi (Nat.not_lt_zero _), fun i j zs _ hj => absurd hj (Nat.not_lt_zero _)⟩
  clear hown hg hi hz0 hz1 hz2
  go_wp2_with fail
  go_loopw [4] (fun i wr => ∃ k : Nat, k ≤ n ∧ i = .int .i64 k ∧ Below w.heap.size w wr ∧ (∃ F, PartP wr w.heap.size n k ps F) ∧ w.heap.size < wr.heap.size) (fun i _ => n - (intOf i).toNat)
  case atStart => exact ⟨0, Nat.zero_le _, rfl, hB, ⟨_, hP⟩, hlt1⟩
  case round =>
    obtain ⟨k, hk, rfl, g, ⟨F, hP⟩, hlt⟩ := hrel
    clear hB hlt1
    by_cases hlt2 : k < n
    · obtain ⟨zs, hzs⟩ := at_lt' (rs := ps) (i := k) (by rw [HN.out]; exact hlt2)
      obtain ⟨b, off, x, cx, rfl, e0, hcx, hx⟩ := (HR.out.below g (Nat.le_refl _)).page hzs
      have hz1 := (HP.out zs (List.mem_of_getElem? hzs)).1
      have HK : Hid (ps[k]? = some zs) := hzs
      clear hzs
      have hkn : (k : Int) < (n : Int) := by omega
      go_wp2_with fail
      refine (toByteS_any x zs zs.length cx _ rfl hz1 hx).mono ?_
      rintro e w' ⟨rfl, g', hy⟩
      have hy' : BytesIn wr.heap.size (wr.heap.size + 1) w' (some ⟨wr.heap.size, 0, none⟩) zs := by
        rcases hy with hy | ⟨b', o', hb', _, _, hc, hf⟩
        · exact .inl hy
        · simp only [Option.some.injEq, Addr.mk.injEq, and_true] at hb'
          obtain ⟨rfl, rfl⟩ := hb'
          exact .inr ⟨_, _, rfl, Nat.le_refl _, by omega, hc, hf⟩
      have hP' := hP.step hlt2 HK.out hlt g' hy'
      have g2 : Below w.heap.size w w' := g.trans (g'.mono g.size)
      have hlt' : w.heap.size < w'.heap.size := by have := g'.size; omega
      obtain ⟨v0, r0⟩ := hP.e k hlt2
      have r0 := (g'.cell (p := ⟨w.heap.size, k, none⟩) hlt).trans r0
      have f0 := (g'.frozen (p := ⟨w.heap.size, k, none⟩) hlt).trans (hP.f k)
      clear g g' hy hy' hP e0 HK hx
      generalize wr.heap.size = gb at hP' ⊢
      go_wp2_with fail
      go_roundw
      case rel => exact ⟨k + 1, by omega, by go_num, by go_grown, ⟨_, hP'⟩, by simp; omega⟩
      case measure => simp [intOf]; omega
    · have e : k = n := by omega
      subst e
      go_wp2_with fail
      go_ret
      exact ⟨rfl, g, hlt, F, hP⟩

set_option maxHeartbeats 1000000 in
theorem eqByteSS_same (x y : Nat) (ps : List (List Int)) (n : Nat) (F G : Nat → Nat) (w : World) (hn : ps.length = n) (hm : n ≤ 9223372036854775807) (hp : PgOk ps) (hx : PartP w x n n ps F) (hy : PartP w y n n ps G) (hxl : x < w.heap.size) (hyl : y < w.heap.size) :
    Calls Try.prog 27 #[.slice (some ⟨x, 0, none⟩) n n, .slice (some ⟨y, 0, none⟩) n n] w fun e w' => e = .returned (.bool true) ∧ Below w.heap.size w w' := by
  have HN : Hid (ps.length = n) := hn
  have HP : Hid (PgOk ps) := hp
  clear hn hp
  go_enter Try.func27, Try.ntmps27
  go_wp2_with fail
  go_loopw [5] (fun i wr => ∃ k : Nat, k ≤ n ∧ i = .int .i64 k ∧ Below w.heap.size w wr) (fun i _ => n - (intOf i).toNat)
  case atStart => exact ⟨0, Nat.zero_le _, rfl, Below.refl _ _⟩
  case round =>
    obtain ⟨k, hk, rfl, g⟩ := hrel
    by_cases hlt : k < n
    · have hkn : (k : Int) < (n : Int) := by omega
      obtain ⟨zs, hzs⟩ := at_lt' (rs := ps) (i := k) (by rw [HN.out]; exact hlt)
      have hzl := (HP.out zs (List.mem_of_getElem? hzs)).1
      have HX := fun V (hV : Below wr.heap.size wr V) => (hx.below hxl (g.trans (hV.mono g.size))).c k zs hlt hzs
      have HY := fun V (hV : Below wr.heap.size wr V) => (hy.below hyl (g.trans (hV.mono g.size))).c k zs hlt hzs
      have HS : Hid (∀ V, Below wr.heap.size wr V → V.cell? ⟨x, k, none⟩ = some (.slice (some ⟨F k, 0, none⟩) zs.length zs.length) ∧ V.cell? ⟨y, k, none⟩ = some (.slice (some ⟨G k, 0, none⟩) zs.length zs.length)) := fun V hV => ⟨(HX V hV).1, (HY V hV).1⟩
      have yx : Hid (∀ V, Below wr.heap.size wr V → BytesIn (F k) (F k + 1) V (some ⟨F k, 0, none⟩) zs) := fun V hV => (HX V hV).2
      have yy : Hid (∀ V, Below wr.heap.size wr V → BytesIn (G k) (G k + 1) V (some ⟨G k, 0, none⟩) zs) := fun V hV => (HY V hV).2
      clear HX HY hzs
      generalize F k = fk at HS yx
      generalize G k = gk at HS yy
      go_wp2_with fail
      go_upto_region 6 with (fail)
      refine wp_region_held_drew (S := fun V => Below wr.heap.size wr V ∧ V.cell? ⟨x, k, none⟩ = some (.slice (some ⟨fk, 0, none⟩) zs.length zs.length) ∧ V.cell? ⟨y, k, none⟩ = some (.slice (some ⟨gk, 0, none⟩) zs.length zs.length)) (by kernel_rfl) ⟨(Below.refl _ _).drew, HS.out _ (Below.refl _ _).drew⟩ (fun hHeld => ?_)
      generalize wr.drew = D at hHeld ⊢
      refine wpAnyH_take (i := 0) (v := ?v1) rfl (by kernel_rfl) (by kernel_rfl) (by kernel_rfl) (fun _ _ _ h => h) (Or.inl ⟨by kernel_rfl, ?h1⟩) hHeld ?_
      case h1 => intro u hSw; (try dsimp only at hSw); go_simp; try with_reducible rfl
      try simp only [List.getElem_toArray]
      try simp only [List.getElem_cons_succ]
      try simp only [List.getElem_cons_zero]
      try simp only [Act.put]
      try simp only [List.setIfInBounds_toArray]
      try simp only [List.set]
      refine wpAnyH_take (i := 1) (v := ?v2) rfl (by kernel_rfl) (by kernel_rfl) (by kernel_rfl) (fun _ _ _ h => h) (Or.inl ⟨by kernel_rfl, ?h2⟩) hHeld ?_
      case h2 => intro u hSw; (try dsimp only at hSw); go_simp; try with_reducible rfl
      try simp only [List.getElem_toArray]
      try simp only [List.getElem_cons_succ]
      try simp only [List.getElem_cons_zero]
      try simp only [Act.put]
      try simp only [List.setIfInBounds_toArray]
      try simp only [List.set]
      refine wpAnyH_take (i := 4) (v := ?v3) rfl (by kernel_rfl) (by kernel_rfl) (by kernel_rfl) (fun _ _ _ h => h) (Or.inl ⟨by kernel_rfl, ?h3⟩) hHeld ?_
      case h3 => intro u hSw; (try dsimp only at hSw); go_simp; try with_reducible rfl
      try simp only [List.getElem_toArray]
      try simp only [List.getElem_cons_succ]
      try simp only [List.getElem_cons_zero]
      try simp only [Act.put]
      try simp only [List.setIfInBounds_toArray]
      try simp only [List.set]
      refine wpAnyH_take (i := 5) (v := ?v4) rfl (by kernel_rfl) (by kernel_rfl) (by kernel_rfl) (fun _ _ _ h => h) (Or.inl ⟨by kernel_rfl, ?h4⟩) hHeld ?_
      case h4 => intro u hSw; (try dsimp only at hSw); go_simp; try with_reducible rfl
      try simp only [List.getElem_toArray]
      try simp only [List.getElem_cons_succ]
      try simp only [List.getElem_cons_zero]
      try simp only [Act.put]
      try simp only [List.setIfInBounds_toArray]
      try simp only [List.set]
      refine wpAnyH_take (i := 2) (v := ?v5) rfl (by kernel_rfl) (by kernel_rfl) (by kernel_rfl) (fun _ _ _ h => h) (Or.inl ⟨by kernel_rfl, ?h5⟩) hHeld ?_
      case h5 => intro u hSw; (try dsimp only at hSw); go_simp; try with_reducible rfl
      try simp only [List.getElem_toArray]
      try simp only [List.getElem_cons_succ]
      try simp only [List.getElem_cons_zero]
      try simp only [Act.put]
      try simp only [List.setIfInBounds_toArray]
      try simp only [List.set]
      refine wpAnyH_take (i := 6) (v := ?v6) rfl (by kernel_rfl) (by kernel_rfl) (by kernel_rfl) (fun _ _ _ h => h) (Or.inl ⟨by kernel_rfl, ?h6⟩) hHeld ?_
      case h6 => intro u hSw; (try dsimp only at hSw); go_simp; try with_reducible rfl
      try simp only [List.getElem_toArray]
      try simp only [List.getElem_cons_succ]
      try simp only [List.getElem_cons_zero]
      try simp only [Act.put]
      try simp only [List.setIfInBounds_toArray]
      try simp only [List.set]
      refine wpAnyH_take (i := 3) (v := ?v7) rfl (by kernel_rfl) (by kernel_rfl) (by kernel_rfl) (fun _ _ _ h => h) (Or.inl ⟨by kernel_rfl, ?h7⟩) hHeld ?_
      case h7 => intro u hSw; have q0 := hSw.2.1; clear hSw; go_simp; try with_reducible rfl
      try simp only [List.getElem_toArray]
      try simp only [List.getElem_cons_succ]
      try simp only [List.getElem_cons_zero]
      try simp only [Act.put]
      try simp only [List.setIfInBounds_toArray]
      try simp only [List.set]
      refine wpAnyH_take (i := 7) (v := ?v8) rfl (by kernel_rfl) (by kernel_rfl) (by kernel_rfl) (fun _ _ _ h => h) (Or.inl ⟨by kernel_rfl, ?h8⟩) hHeld ?_
      case h8 => intro u hSw; have q0 := hSw.2.2; clear hSw; go_simp; try with_reducible rfl
      try simp only [List.getElem_toArray]
      try simp only [List.getElem_cons_succ]
      try simp only [List.getElem_cons_zero]
      try simp only [Act.put]
      try simp only [List.setIfInBounds_toArray]
      try simp only [List.set]
      refine wpAnyH_ready (rs := [8]) (by kernel_rfl) (by simp) ?_
      refine AllReadyH.cons rfl (fun K hK => ?_) AllReadyH.nil
      go_simp
      go_wp2_with (go_at_call 70; refine (eqByteS_same _ _ _ _ _ _ zs zs.length _ _ _ rfl (by omega) (yx.out _ hHeld.1) (yy.out _ hHeld.1)).mono ?_; rintro e w' ⟨rfl, m, rfl⟩)
      refine hK.out _ _ (⟨below_draws hHeld.1 m, HS.out _ (below_draws hHeld.1 m)⟩) (fun hHeld => ?_)
      clear hK K
      try simp only [Act.put]
      try simp only [List.setIfInBounds_toArray]
      try simp only [List.set]
      refine wpAnyH_take (i := 9) (v := ?v9) rfl (by kernel_rfl) (by kernel_rfl) (by kernel_rfl) (fun _ _ _ h => h) (Or.inl ⟨by kernel_rfl, ?h9⟩) hHeld ?_
      case h9 => intro u hSw; (try dsimp only at hSw); go_simp; try with_reducible rfl
      try simp only [List.getElem_toArray]
      try simp only [List.getElem_cons_succ]
      try simp only [List.getElem_cons_zero]
      try simp only [Act.put]
      try simp only [List.setIfInBounds_toArray]
      try simp only [List.set]
      refine wpAnyH_done (by kernel_rfl) ?_ _
      have g := g.trans (hHeld.1.mono g.size)
      clear hHeld HS yx yy
      go_wp2_with fail
      go_roundw
      case rel => exact ⟨k + 1, by omega, by go_num, g⟩
      case measure => simp [intOf]; omega
    · go_wp2_with fail
      go_ret
      exact ⟨rfl, g⟩

end Go.Proofs.Yteebbaleejbodaa
