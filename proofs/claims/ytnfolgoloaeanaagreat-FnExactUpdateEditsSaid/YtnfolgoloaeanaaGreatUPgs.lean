/-
  Pages in slices: szByteSS, toByteSS, eqByteSS, markByteSS; what came in, opened.
-/
import Derived.Test.YtnfolgoloaeanaaGreatUEdc
import Derived.Test.YtnfolgoloaeanaaGreatUApn

namespace Go.Proofs.YtnfolgoloaeanaaGreat
open Go.ChangeShapes Go.WideShapes Go.RowKit
set_option linter.unusedVariables false

structure IsPages (w : World) (a : Option Addr) (len : Nat) (ps : List (List Int)) : Prop where
  rd : PgRead w a ps
  eq : ps.length = len
  ln : len ≤ 9223372036854775807
  sz : ∀ zs ∈ ps, zs.length ≤ 9223372036854775807 ∧ ∀ z ∈ zs, 0 ≤ z ∧ z ≤ 255

set_option maxHeartbeats 400000 in
theorem szByteSS_any (a : Option Addr) (ps : List (List Int)) (n c : Nat) (w : World) (k : Int) (h : IsPages w a n ps) (hk0 : 0 ≤ k) (hk : k ≤ 1048576) :
    Calls Tryz.prog 35 #[.slice a n c, .int .i64 k] w fun e w' => (∃ r : Int, e = .returned (.int .i64 r) ∧ r ≤ 1048576 ∧ (0 ≤ r → n ≤ 1048576 ∧ PgOk ps)) ∧ w' = w := by
  obtain ⟨hr, hn, hm, hs⟩ := h
  by_cases h : k < n
  · have d : (k - (n : Int) < 0) := by omega
    go_enter Tryz.func35, Tryz.ntmps35
    go_wp2_with fail
    go_ret
    exact ⟨⟨-1, rfl, by omega, by omega⟩, rfl⟩
  · have d : ¬ (k - (n : Int) < 0) := by omega
    have HR : Hid (PgRead w a ps) := hr
    have HS : Hid (∀ zs ∈ ps, zs.length ≤ 9223372036854775807 ∧ ∀ z ∈ zs, 0 ≤ z ∧ z ≤ 255) := hs
    have HN : Hid (ps.length = n) := hn
    clear hn hs hr
    go_enter Tryz.func35, Tryz.ntmps35
    go_wp2_with fail
    go_loopw [5, 1] (fun i l wr => ∃ (j : Nat) (m : Int), j ≤ n ∧ i = .int .i64 j ∧ l = .int .i64 m ∧ 0 ≤ m ∧ m ≤ 1048576 ∧ Hid (∀ zs ∈ ps.take j, zs.length ≤ 1048576) ∧ wr = w) (fun i _ _ => n - (intOf i).toNat)
    case atStart => exact ⟨0, _, Nat.zero_le _, rfl, rfl, by omega, by omega, fun x hx => by simp at hx, rfl⟩
    case round =>
      obtain ⟨j, m, hj, rfl, rfl, hm0, hm1, hall, rfl⟩ := hrel
      by_cases hlt : j < n
      · obtain ⟨zs, hzs⟩ := at_lt' (rs := ps) (i := j) (by rw [HN.out]; exact hlt)
        obtain ⟨b, off, x, cx, rfl, e0, hcx, _⟩ := HR.out.page hzs
        have hjn : (j : Int) < (n : Int) := by omega
        have hz1 := (HS.out zs (List.mem_of_getElem? hzs)).1
        have HT : Hid (ps.take (j + 1) = ps.take j ++ [zs]) := take_snoc hzs
        clear hzs
        have hq : szQ m zs.length = -1 ∨ (0 ≤ szQ m zs.length ∧ szQ m zs.length ≤ 1048576 ∧ zs.length ≤ 1048576) := by unfold szQ; split <;> omega
        go_wp2_with fail
        refine (szByteS_any x zs.length cx m _ hz1 hm0 hm1).mono ?_
        rintro e w' ⟨rfl, hw'⟩
        subst w'
        generalize szQ m zs.length = q at hq ⊢
        rcases hq with rfl | ⟨hq0, hq1, hq2⟩
        · go_wp2_with fail
          go_ret
          exact ⟨⟨-1, rfl, by omega, by omega⟩, rfl⟩
        · have dq : ¬ (q < 0) := by omega
          have H2 : Hid (∀ zs ∈ ps.take (j + 1), zs.length ≤ 1048576) := fun y hy => by
            rw [HT.out] at hy
            rcases List.mem_append.1 hy with hy | hy
            · exact hall.out y hy
            · simp at hy; subst hy; exact hq2
          clear HT hall
          go_wp2_with fail
          go_roundw
          case rel => exact ⟨j + 1, q, by omega, by go_num, rfl, hq0, hq1, H2, by simp⟩
          case measure => simp [intOf]; omega
      · have e : j = n := by omega
        subst e
        go_wp2_with fail
        go_ret
        refine ⟨⟨_, rfl, by omega, fun _ => ⟨by omega, fun x hx => ⟨hall.out x (by rw [List.take_of_length_le (by rw [HN.out]; exact Nat.le_refl _)]; exact hx), (HS.out x hx).2⟩⟩⟩, rfl⟩

theorem info63' : (Tryz.prog.info? 22).map (fun i => (i.zero, i.size, i.bytes)) = some (some (.slice none 0 0), 1, 24) := by kernel_rfl
theorem info63 : ∃ i, Tryz.prog.info? 22 = some i ∧ i.zero = some (.slice none 0 0) ∧ i.size = 1 ∧ i.bytes = 24 := by
  have h := info63'
  cases hi : Tryz.prog.info? 22 with
  | none => rw [hi] at h; simp at h
  | some i => rw [hi] at h; simp at h; exact ⟨i, rfl, h.1, h.2.1, h.2.2⟩

/-- Block g holds n pages, of which the first k are there, each in a block of its own. -/
structure PartP (w : World) (g n k : Nat) (ps : List (List Int)) (F : Nat → Nat) : Prop where
  c : ∀ i zs, i < k → ps[i]? = some zs → w.cell? ⟨g, i, none⟩ = some (.slice (some ⟨F i, 0, none⟩) zs.length zs.length) ∧ BytesIn (F i) (F i + 1) w (some ⟨F i, 0, none⟩) zs
  e : ∀ o, o < n → ∃ v, w.cell? ⟨g, o, none⟩ = some v
  f : ∀ o, w.frozen? ⟨g, o, none⟩ = false
  fr : ∀ i, i < k → g < F i ∧ F i ≤ w.heap.size
  ne : ∀ i j zs, i < j → j < k → ps[i]? = some zs → zs ≠ [] → F i < F j

theorem PartP.lt {w : World} {g n k : Nat} {ps : List (List Int)} {F : Nat → Nat} (h : PartP w g n k ps F) {i : Nat} {zs : List Int} (hi : i < k) (hz : ps[i]? = some zs) (hne : zs ≠ []) : F i < w.heap.size := by
  rcases (h.c i zs hi hz).2 with h1 | ⟨b, o, _, h3, h4, hc, _⟩
  · exact absurd h1 hne
  · have h5 : 0 < zs.length := List.length_pos_iff.2 hne
    have h6 : b < w.heap.size := World.block_lt_of_cell? w _ (hc 0 h5)
    omega

theorem PartP.step {w w' : World} {g n k : Nat} {ps : List (List Int)} {F : Nat → Nat} {zs : List Int} (h : PartP w g n k ps F) (hk : k < n) (hz : ps[k]? = some zs) (hg : g < w.heap.size) (hb : Below w.heap.size w w')
    (hy : BytesIn w.heap.size (w.heap.size + 1) w' (some ⟨w.heap.size, 0, none⟩) zs) :
    PartP (w'.setCell ⟨g, k, none⟩ (.slice (some ⟨w.heap.size, 0, none⟩) zs.length zs.length)) g n (k + 1) ps (fun i => if i = k then w.heap.size else F i) := by
  have cc : ∀ o v, w.cell? ⟨g, o, none⟩ = some v → w'.cell? ⟨g, o, none⟩ = some v := fun o v hv => (hb.cell (p := ⟨g, o, none⟩) hg).trans hv
  obtain ⟨v0, d0⟩ := h.e k hk
  have d0 := cc _ _ d0
  refine ⟨fun i ys hi hys => ?_, fun o ho => ?_, fun o => ?_, fun i hi => ?_, fun i j ys hij hj hys hne => ?_⟩
  · by_cases e : i = k
    · subst e
      rw [hz] at hys
      cases hys
      simp only [if_true]
      exact ⟨World.cell?_setCell_same _ _ _ d0, hy.setCell (by simp; omega) _⟩
    · simp only [if_neg e]
      obtain ⟨h1, h2⟩ := h.c i ys (by omega) hys
      refine ⟨by rw [World.cell?_setCell_other _ _ _ _ (fun e' => e (by have := congrArg Addr.off e'; simpa using this.symm))]; exact cc _ _ h1, ?_⟩
      have := h.fr i (by omega)
      exact (h2.below hb).setCell (by simp; omega) _
  · by_cases e : o = k
    · subst e; exact ⟨_, World.cell?_setCell_same _ _ _ d0⟩
    · obtain ⟨v, hv⟩ := h.e o ho
      exact ⟨v, by rw [World.cell?_setCell_other _ _ _ _ (fun e' => e (by have := congrArg Addr.off e'; simpa using this.symm))]; exact cc _ _ hv⟩
  · rw [World.frozen?_setCell]
    exact (hb.frozen (p := ⟨g, o, none⟩) hg).trans (h.f o)
  · rw [World.size_setCell]
    have := hb.size
    by_cases e : i = k
    · subst e; simp only [if_true]; omega
    · simp only [if_neg e]; have := h.fr i (by omega); omega
  · have hik : i < k := by omega
    simp only [if_neg (show ¬ i = k by omega)]
    by_cases e : j = k
    · subst e; simp only [if_true]; exact h.lt hij hys hne
    · simp only [if_neg e]; exact h.ne i j ys hij (by omega) hys hne

theorem PartP.below {w w' : World} {g n k : Nat} {ps : List (List Int)} {F : Nat → Nat} (h : PartP w g n k ps F) (hg : g < w.heap.size) (hb : Below w.heap.size w w') : PartP w' g n k ps F :=
  ⟨fun i zs hi hz => ⟨(hb.cell (p := ⟨g, i, none⟩) hg).trans (h.c i zs hi hz).1, (h.c i zs hi hz).2.below hb⟩, fun o ho => by obtain ⟨v, hv⟩ := h.e o ho; exact ⟨v, (hb.cell (p := ⟨g, o, none⟩) hg).trans hv⟩,
    fun o => (hb.frozen (p := ⟨g, o, none⟩) hg).trans (h.f o), fun i hi => ⟨(h.fr i hi).1, Nat.le_trans (h.fr i hi).2 hb.size⟩, h.ne⟩

theorem PartP.reads {w : World} {g n : Nat} {ps : List (List Int)} {F : Nat → Nat} (h : PartP w g n n ps F) (hn : ps.length = n) : PgRead w (some ⟨g, 0, none⟩) ps := by
  refine .inr ⟨g, 0, rfl, fun i zs hz => ?_⟩
  have hi : i < n := by rw [← hn]; exact (List.getElem?_eq_some_iff.1 hz).1
  obtain ⟨h1, h2⟩ := h.c i zs hi hz
  exact ⟨_, _, by rw [Nat.zero_add]; exact h1, Nat.le_refl _, h2.reads⟩

set_option maxHeartbeats 1000000 in
theorem toByteSS_any (a : Option Addr) (ps : List (List Int)) (n c : Nat) (w : World) (hn : ps.length = n) (hm : n ≤ 1048576) (hp : PgOk ps) (hr : PgRead w a ps) :
    Calls Tryz.prog 37 #[.slice a n c] w fun e w' => e = .returned (.slice (some ⟨w.heap.size, 0, none⟩) n n) ∧ Below w.heap.size w w' ∧ w.heap.size < w'.heap.size ∧ ∃ F, PartP w' w.heap.size n n ps F := by
  obtain ⟨i0, hi, hz0, hz1, hz2⟩ := info63
  have HN : Hid (ps.length = n) := hn
  have HR : Hid (PgRead w a ps) := hr
  have HP : Hid (PgOk ps) := hp
  clear hn hr hp
  go_enter Tryz.func37, Tryz.ntmps37
  go_wp2_with (at_make; refine wpList_make_full _ rfl _ _ 24 rfl w.heap.size 22 i0 (.slice none 0 0) 1 Tryz.underlying24 hi hz0 hz1 .i64 .i64 _ _ n rfl rfl rfl rfl ?c1 ?c2 (Nat.le_refl _) ?_)
  case c1 => rw [hz2]; omega
  case c2 => unfold maxLen; omega
  intro w1 hown hg
  have hB : Below w.heap.size w w1 := Below.grown (Below.refl _ _) hg (Nat.le_refl _) (fun k hk => by cases hk)
  have hlt1 : w.heap.size < w1.heap.size := (hown.lt w.heap.size (by simp [Value.ownBlock])).2
  have hP : PartP w1 w.heap.size n 0 ps (fun _ => 0) := ⟨fun i zs hi => absurd hi (Nat.not_lt_zero _), fun o ho => ⟨_, by rw [hown.cellAt o (by omega)]; exact List.getElem?_eq_getElem (by simpa [madeCells] using ho)⟩, fun o => hown.frozenAt _, fun i hi => absurd hi (Nat.not_lt_zero _), fun i j zs _ hj => absurd hj (Nat.not_lt_zero _)⟩
  clear hown hg hi hz0 hz1 hz2
  go_wp2_with fail
  go_loopw [4] (fun i wr => ∃ k : Nat, k ≤ n ∧ i = .int .i64 k ∧ Below w.heap.size w wr ∧ (∃ F, PartP wr w.heap.size n k ps F) ∧ w.heap.size < wr.heap.size) (fun i _ => n - (intOf i).toNat)
  case atStart => exact ⟨0, Nat.zero_le _, rfl, hB, ⟨_, hP⟩, hlt1⟩
  case round =>
    obtain ⟨k, hk, rfl, g, ⟨F, hP⟩, hlt⟩ := hrel
    clear hB hlt1
    by_cases hlt2 : k < n
    · obtain ⟨zs, hzs⟩ := at_lt' (rs := ps) (i := k) (by rw [HN.out]; exact hlt2)
      obtain ⟨b, off, x, cx, rfl, e0, hcx, hx⟩ := (HR.out.below g (Nat.le_refl _)).page hzs
      have hz1 := (HP.out zs (List.mem_of_getElem? hzs)).1
      have HK : Hid (ps[k]? = some zs) := hzs
      clear hzs
      have hkn : (k : Int) < (n : Int) := by omega
      go_wp2_with fail
      refine (toByteS_any x zs zs.length cx _ rfl hz1 hx).mono ?_
      rintro e w' ⟨rfl, g', hy⟩
      have hy' : BytesIn wr.heap.size (wr.heap.size + 1) w' (some ⟨wr.heap.size, 0, none⟩) zs := by
        rcases hy with hy | ⟨b', o', hb', _, _, hc, hf⟩
        · exact .inl hy
        · simp only [Option.some.injEq, Addr.mk.injEq, and_true] at hb'
          obtain ⟨rfl, rfl⟩ := hb'
          exact .inr ⟨_, _, rfl, Nat.le_refl _, by omega, hc, hf⟩
      have hP' := hP.step hlt2 HK.out hlt g' hy'
      have g2 : Below w.heap.size w w' := g.trans (g'.mono g.size)
      have hlt' : w.heap.size < w'.heap.size := by have := g'.size; omega
      obtain ⟨v0, r0⟩ := hP.e k hlt2
      have r0 := (g'.cell (p := ⟨w.heap.size, k, none⟩) hlt).trans r0
      have f0 := (g'.frozen (p := ⟨w.heap.size, k, none⟩) hlt).trans (hP.f k)
      clear g g' hy hy' hP e0 HK hx
      generalize wr.heap.size = gb at hP' ⊢
      go_wp2_with fail
      go_roundw
      case rel => exact ⟨k + 1, by omega, by go_num, by go_grown, ⟨_, hP'⟩, by simp; omega⟩
      case measure => simp [intOf]; omega
    · have e : k = n := by omega
      subst e
      go_wp2_with fail
      go_ret
      exact ⟨rfl, g, hlt, F, hP⟩

set_option maxHeartbeats 1000000 in
theorem eqByteSS_same (x y : Nat) (ps : List (List Int)) (n : Nat) (F G : Nat → Nat) (w : World) (hn : ps.length = n) (hm : n ≤ 9223372036854775807) (hp : PgOk ps) (hx : PartP w x n n ps F) (hy : PartP w y n n ps G) (hxl : x < w.heap.size) (hyl : y < w.heap.size) :
    Calls Tryz.prog 40 #[.slice (some ⟨x, 0, none⟩) n n, .slice (some ⟨y, 0, none⟩) n n] w fun e w' => e = .returned (.bool true) ∧ Below w.heap.size w w' := by
  have HN : Hid (ps.length = n) := hn
  have HP : Hid (PgOk ps) := hp
  clear hn hp
  go_enter Tryz.func40, Tryz.ntmps40
  go_wp2_with fail
  go_loopw [5] (fun i wr => ∃ k : Nat, k ≤ n ∧ i = .int .i64 k ∧ Below w.heap.size w wr) (fun i _ => n - (intOf i).toNat)
  case atStart => exact ⟨0, Nat.zero_le _, rfl, Below.refl _ _⟩
  case round =>
    obtain ⟨k, hk, rfl, g⟩ := hrel
    by_cases hlt : k < n
    · have hkn : (k : Int) < (n : Int) := by omega
      obtain ⟨zs, hzs⟩ := at_lt' (rs := ps) (i := k) (by rw [HN.out]; exact hlt)
      have hzl := (HP.out zs (List.mem_of_getElem? hzs)).1
      have HX := fun V (hV : Below wr.heap.size wr V) => (hx.below hxl (g.trans (hV.mono g.size))).c k zs hlt hzs
      have HY := fun V (hV : Below wr.heap.size wr V) => (hy.below hyl (g.trans (hV.mono g.size))).c k zs hlt hzs
      have HS : Hid (∀ V, Below wr.heap.size wr V → V.cell? ⟨x, k, none⟩ = some (.slice (some ⟨F k, 0, none⟩) zs.length zs.length) ∧ V.cell? ⟨y, k, none⟩ = some (.slice (some ⟨G k, 0, none⟩) zs.length zs.length)) := fun V hV => ⟨(HX V hV).1, (HY V hV).1⟩
      have yx : Hid (∀ V, Below wr.heap.size wr V → BytesIn (F k) (F k + 1) V (some ⟨F k, 0, none⟩) zs) := fun V hV => (HX V hV).2
      have yy : Hid (∀ V, Below wr.heap.size wr V → BytesIn (G k) (G k + 1) V (some ⟨G k, 0, none⟩) zs) := fun V hV => (HY V hV).2
      clear HX HY hzs
      generalize F k = fk at HS yx
      generalize G k = gk at HS yy
      go_wp2_with fail
      go_upto_region 6 with (fail)
      refine wp_region_held_drew (S := fun V => Below wr.heap.size wr V ∧ V.cell? ⟨x, k, none⟩ = some (.slice (some ⟨fk, 0, none⟩) zs.length zs.length) ∧ V.cell? ⟨y, k, none⟩ = some (.slice (some ⟨gk, 0, none⟩) zs.length zs.length)) (by kernel_rfl) ⟨(Below.refl _ _).drew, HS.out _ (Below.refl _ _).drew⟩ (fun hHeld => ?_)
      generalize wr.drew = D at hHeld ⊢
      refine tkH (i := 0) (v := ?v1) rfl (Or.inl ⟨by kernel_rfl, ?h1⟩) hHeld ?_
      case h1 => intro u hSw; (try dsimp only at hSw); go_simp; try with_reducible rfl
      try simp only [Act.put, tdy]
      refine tkH (i := 1) (v := ?v2) rfl (Or.inl ⟨by kernel_rfl, ?h2⟩) hHeld ?_
      case h2 => intro u hSw; (try dsimp only at hSw); go_simp; try with_reducible rfl
      try simp only [Act.put, tdy]
      refine tkH (i := 4) (v := ?v3) rfl (Or.inl ⟨by kernel_rfl, ?h3⟩) hHeld ?_
      case h3 => intro u hSw; (try dsimp only at hSw); go_simp; try with_reducible rfl
      try simp only [Act.put, tdy]
      refine tkH (i := 5) (v := ?v4) rfl (Or.inl ⟨by kernel_rfl, ?h4⟩) hHeld ?_
      case h4 => intro u hSw; (try dsimp only at hSw); go_simp; try with_reducible rfl
      try simp only [Act.put, tdy]
      refine tkH (i := 2) (v := ?v5) rfl (Or.inl ⟨by kernel_rfl, ?h5⟩) hHeld ?_
      case h5 => intro u hSw; (try dsimp only at hSw); go_simp; try with_reducible rfl
      try simp only [Act.put, tdy]
      refine tkH (i := 6) (v := ?v6) rfl (Or.inl ⟨by kernel_rfl, ?h6⟩) hHeld ?_
      case h6 => intro u hSw; (try dsimp only at hSw); go_simp; try with_reducible rfl
      try simp only [Act.put, tdy]
      refine tkH (i := 3) (v := ?v7) rfl (Or.inl ⟨by kernel_rfl, ?h7⟩) hHeld ?_
      case h7 => intro u hSw; have q0 := hSw.2.1; clear hSw; go_simp; try with_reducible rfl
      try simp only [Act.put, tdy]
      refine tkH (i := 7) (v := ?v8) rfl (Or.inl ⟨by kernel_rfl, ?h8⟩) hHeld ?_
      case h8 => intro u hSw; have q0 := hSw.2.2; clear hSw; go_simp; try with_reducible rfl
      try simp only [Act.put, tdy]
      refine wpAnyH_ready (rs := [8]) (by kernel_rfl) (by simp) ?_
      refine AllReadyH.cons rfl (fun K hK => ?_) AllReadyH.nil
      go_simp
      go_wp2_with (go_at_call 93; refine (eqByteS_same _ _ _ _ _ _ zs zs.length _ _ _ rfl (by omega) (yx.out _ hHeld.1) (yy.out _ hHeld.1)).mono ?_; rintro e w' ⟨rfl, m, rfl⟩)
      refine hK.out _ _ (⟨below_draws hHeld.1 m, HS.out _ (below_draws hHeld.1 m)⟩) (fun hHeld => ?_)
      clear hK K
      try simp only [Act.put, tdy]
      refine tkH (i := 9) (v := ?v9) rfl (Or.inl ⟨by kernel_rfl, ?h9⟩) hHeld ?_
      case h9 => intro u hSw; (try dsimp only at hSw); go_simp; try with_reducible rfl
      try simp only [Act.put, tdy]
      refine wpAnyH_done (by kernel_rfl) ?_ _
      have g := g.trans (hHeld.1.mono g.size)
      clear hHeld HS yx yy
      go_wp2_with fail
      go_roundw
      case rel => exact ⟨k + 1, by omega, by go_num, g⟩
      case measure => simp [intOf]; omega
    · go_wp2_with fail
      go_ret
      exact ⟨rfl, g⟩

open Go.RowKit

/-- Block b, one of lo to below hi, holds n slices of bytes: of the i-th the bytes Z i, which stand at A i in block F i; no two share any. -/
structure OwnP (lo hi : Nat) (w : World) (b n : Nat) (A : Nat → Option Addr) (C : Nat → Nat) (Z : Nat → List Int) (F : Nat → Nat) : Prop where
  l0 : lo ≤ b
  h0 : b < hi
  c1 : ∀ i, i < n → w.cell? ⟨b, i, none⟩ = some (.slice (A i) (Z i).length (C i))
  f1 : ∀ i, i < n → w.frozen? ⟨b, i, none⟩ = false
  by' : ∀ i, i < n → BytesIn (F i) (F i + 1) w (A i) (Z i)
  fr : ∀ i, i < n → Z i ≠ [] → lo ≤ F i ∧ F i < hi ∧ F i ≠ b
  ne : ∀ i j, i < n → j < n → i ≠ j → Z i ≠ [] → Z j ≠ [] → F i ≠ F j

section
variable {lo hi b n : Nat} {w w' : World} {A : Nat → Option Addr} {C : Nat → Nat} {Z Z' : Nat → List Int} {F : Nat → Nat}
theorem OwnP.turned (h : OwnP lo hi w b n A C Z F) {x y : Nat} (ht : Turned x y w w') (hn : hi ≤ x ∨ y ≤ lo) : OwnP lo hi w' b n A C Z F := by
  have h1 := h.l0
  have h2 := h.h0
  exact ⟨h.l0, h.h0, fun i hi => ht.cell (h.c1 i hi) (by simp only; omega), fun i hi => (ht.frozen (h.c1 i hi) (by simp only; omega)).trans (h.f1 i hi),
    fun i hi => (h.by' i hi).turnedE ht (fun e => by have := h.fr i hi e; omega), h.fr, h.ne⟩
theorem OwnP.below (h : OwnP lo hi w b n A C Z F) (hb : Below w.heap.size w w') : OwnP lo hi w' b n A C Z F :=
  h.turned (x := hi) (y := hi) (Turned.ofBelow hb) (.inl (Nat.le_refl _))
theorem OwnP.mono (h : OwnP lo hi w b n A C Z F) {lo' hi' : Nat} (hl : lo' ≤ lo) (hh : hi ≤ hi') : OwnP lo' hi' w b n A C Z F :=
  ⟨Nat.le_trans hl h.l0, Nat.lt_of_lt_of_le h.h0 hh, h.c1, h.f1, h.by', fun i hi e => by have := h.fr i hi e; omega, h.ne⟩
theorem OwnP.congr (h : OwnP lo hi w b n A C Z F) (hZ : ∀ i, i < n → Z i = Z' i) : OwnP lo hi w b n A C Z' F :=
  ⟨h.l0, h.h0, fun i hi => by rw [← hZ i hi]; exact h.c1 i hi, h.f1, fun i hi => by rw [← hZ i hi]; exact h.by' i hi, fun i hi e => h.fr i hi (by rw [hZ i hi]; exact e), fun i j hi hj hn e1 e2 => h.ne i j hi hj hn (by rw [hZ i hi]; exact e1) (by rw [hZ j hj]; exact e2)⟩
theorem OwnP.setBytes (h : OwnP lo hi w b n A C Z F) {j : Nat} (hj : j < n) (hne : Z j ≠ []) (ht : Turned (F j) (F j + 1) w w') {ys : List Int} (hl : ys.length = (Z j).length) (hy : BytesIn (F j) (F j + 1) w' (A j) ys) : OwnP lo hi w' b n A C (fun i => if i = j then ys else Z i) F := by
  have hfj := h.fr j hj hne
  refine ⟨h.l0, h.h0, fun i hi => ?_, fun i hi => (ht.frozen (h.c1 i hi) (by simp only; omega)).trans (h.f1 i hi), fun i hi => ?_, fun i hi e => ?_, fun i k hi hk hn e1 e2 => ?_⟩
  · rw [ht.cell (h.c1 i hi) (by simp only; omega)]
    by_cases e : i = j
    · subst e
      simp only [if_true]
      rw [hl]
    · simp only [if_neg e]
  · by_cases e : i = j
    · subst e
      simp only [if_true]
      exact hy
    · simp only [if_neg e]
      exact (h.by' i hi).turnedE ht (fun e2 => by have := h.ne i j hi hj e e2 hne; omega)
  · by_cases e3 : i = j
    · subst e3; exact hfj
    · simp only [if_neg e3] at e; exact h.fr i hi e
  · refine h.ne i k hi hk hn ?_ ?_
    · by_cases e3 : i = j
      · subst e3; exact hne
      · simpa only [if_neg e3] using e1
    · by_cases e3 : k = j
      · subst e3; exact hne
      · simpa only [if_neg e3] using e2
end

/-- The number with which the i-th page's marks begin, and its bytes then. -/
def mkP (Z : Nat → List Int) (k : Int) (i : Nat) : Int := k + took Z i
theorem mkP_succ (Z : Nat → List Int) (k : Int) (i : Nat) : mkP Z k (i + 1) = mkP Z k i + (Z i).length := by unfold mkP; simp only [took]; omega
def mZP (Z : Nat → List Int) (k : Int) (i : Nat) : List Int := marked (mkP Z k i) (Z i).length (Z i)
theorem mZP_len (Z : Nat → List Int) (k : Int) (i : Nat) : (mZP Z k i).length = (Z i).length := marked_length _ _ _ (Nat.le_refl _)

end Go.Proofs.YtnfolgoloaeanaaGreat

