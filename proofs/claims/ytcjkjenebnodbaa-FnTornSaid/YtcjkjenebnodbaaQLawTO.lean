/-
  The law FnTorn answers true at all codes.
-/
import Derived.Test.YtcjkjenebnodbaaQDcl
import Derived.Test.YtcjkjenebnodbaaQSam
import Derived.Test.YtcjkjenebnodbaaQScr
import Derived.Laws.BytesArg

namespace Go.Proofs.Ytcjkjenebnodbaa
open Go.RowKit
set_option linter.unusedVariables false

theorem lwBig_small (a : Option Addr) (n c : Nat) (w : World) (h : n ≤ 1048576) : Calls Try.prog 15 #[.slice a n c] w fun e w' => e = .returned (.bool false) ∧ w' = w := by
  have d : ¬ ((1048576 : Int) < (n : Int)) := by omega
  have d2 : decide ((1048576 : Int) < (n : Int)) = false := by simpa using d
  go_enter Try.func15, Try.ntmps15
  go_wp2
  go_ret
  exact ⟨rfl, rfl⟩

theorem lwBig_big (a : Option Addr) (n c : Nat) (w : World) (h : 1048576 < n) : Calls Try.prog 15 #[.slice a n c] w fun e w' => e = .returned (.bool true) ∧ w' = w := by
  have d : (1048576 : Int) < (n : Int) := by omega
  have d2 : decide ((1048576 : Int) < (n : Int)) = true := by simpa using d
  go_enter Try.func15, Try.ntmps15
  go_wp2
  go_ret
  exact ⟨rfl, rfl⟩

theorem OwnRS.recs {lo hi n : Nat} {w : World} {a : Option Addr} {R : Nat → Rc} {D : Nat → Ad} (h : OwnRS lo hi w a n R D) : RecsRead w a n R D := by
  rcases h with h | ⟨b, ha, ho⟩
  · exact .inl h
  · exact .inr ⟨b, 0, ha, fun i hi => by rw [Nat.zero_add]; exact ⟨ho.c0 i hi, ho.c1 i hi, ho.c2 i hi, ho.c3 i hi, by
      rcases ho.rn i hi with h | ⟨bq, e, hq⟩
      · exact .inl h
      · rw [e]; exact hq.reads⟩⟩

/-- The crashed log's cells, and what it reads. -/
structure TnS (w : World) (bl bc : Nat) (x y : Option Addr) (xs ys : List Int) (c d : Nat) (q : Int) (p r : Option Addr) (us : List Int) (cp cr : Nat) (V : World) : Prop where
  l : LgAt V bl x xs.length c y ys.length d
  c0 : V.cell? ⟨bc, 0, none⟩ = some (.int .i64 q)
  c1 : V.cell? ⟨bc, 1, none⟩ = some (.slice p us.length cp)
  c2 : V.cell? ⟨bc, 2, none⟩ = some (.slice r 0 cr)
  rx : Reads V x xs
  ry : Reads V y ys
  ru : Reads V p us
  g : Below w.heap.size w V
theorem TnS.up {w : World} {bl bc : Nat} {x y : Option Addr} {xs ys : List Int} {c d : Nat} {q : Int} {p r : Option Addr} {us : List Int} {cp cr : Nat} {V W : World} (h : TnS w bl bc x y xs ys c d q p r us cp cr V) (hb : Below V.heap.size V W) : TnS w bl bc x y xs ys c d q p r us cp cr W :=
  ⟨h.l.up hb, cellUp hb h.c0, cellUp hb h.c1, cellUp hb h.c2, h.rx.below hb (Nat.le_refl _), h.ry.below hb (Nat.le_refl _), h.ru.below hb (Nat.le_refl _), h.g.trans (hb.mono h.g.size)⟩

theorem crB_bd {xs ys : List Int} {k : Int} (hx : ∀ z ∈ xs, 0 ≤ z ∧ z ≤ 255) (hy : ∀ z ∈ ys, 0 ≤ z ∧ z ≤ 255) : ∀ z ∈ crB xs ys k, 0 ≤ z ∧ z ≤ 255 := by
  intro z hz
  unfold crB at hz
  split at hz
  · have := List.mem_of_mem_take hz
    unfold crD at this
    rcases List.mem_append.1 this with h | h
    · exact hx z h
    · exact hy z (List.mem_of_mem_take h)
  · simp at hz
theorem crB_len {xs ys : List Int} {k : Int} {N : Nat} (h : xs.length + ys.length ≤ N) : (crB xs ys k).length ≤ N := by
  unfold crB
  split
  · unfold crD
    rw [List.length_take, List.length_append, List.length_take]
    omega
  · simp

/-- The three cells of a RecordsResult that is not told yet. -/
structure N3 (V : World) (b : Nat) : Prop where
  a0 : V.cell? ⟨b, 0, none⟩ = some (.int .i64 0)
  a1 : V.cell? ⟨b, 1, none⟩ = some (.int .i64 0)
  a2 : V.cell? ⟨b, 2, none⟩ = some (.slice none 0 0)
  f0 : V.frozen? ⟨b, 0, none⟩ = false
  f1 : V.frozen? ⟨b, 1, none⟩ = false
  f2 : V.frozen? ⟨b, 2, none⟩ = false
theorem N3.lt {V : World} {b : Nat} (h : N3 V b) : b < V.heap.size := World.block_lt_of_cell? V _ h.a0
theorem N3.blk {V W : World} {b : Nat} (h : N3 V b) (he : W.heap[b]? = V.heap[b]?) : N3 W b :=
  ⟨(World.cell?_of_block (a := ⟨b, 0, none⟩) he).trans h.a0, (World.cell?_of_block (a := ⟨b, 1, none⟩) he).trans h.a1, (World.cell?_of_block (a := ⟨b, 2, none⟩) he).trans h.a2,
   (World.frozen?_of_block (a := ⟨b, 0, none⟩) he).trans h.f0, (World.frozen?_of_block (a := ⟨b, 1, none⟩) he).trans h.f1, (World.frozen?_of_block (a := ⟨b, 2, none⟩) he).trans h.f2⟩
theorem N3.up {V W : World} {b : Nat} (h : N3 V b) (hb : Below V.heap.size V W) : N3 W b := h.blk (hb.block b h.lt)

theorem lgR_bd {zs : List Int} (hz : ∀ z ∈ zs, 0 ≤ z ∧ z ≤ 255) (i j : Nat) : ∀ z ∈ (lgR zs i).Z j, 0 ≤ z ∧ z ≤ 255 := fun z h => from_bd hz i z (List.mem_of_mem_drop (List.mem_of_mem_take h))
theorem RecsRead.first {w : World} {a : Option Addr} {n m : Nat} {R : Nat → Rc} {D : Nat → Ad} (h : RecsRead w a n R D) (hm : m ≤ n) : RecsRead w a m R D := by
  rcases h with h | ⟨b, off, ha, hc⟩
  · exact .inl (by omega)
  · exact .inr ⟨b, off, ha, fun i hi => hc i (by omega)⟩
structure TnT (w : World) (bl bc : Nat) (x y : Option Addr) (xs ys : List Int) (c d : Nat) (p r : Option Addr) (us : List Int) (cp cr b6 b7 b8 : Nat) (aa a7 a8 : Option Addr) (na n7 n8 ca c7 c8 : Nat) (al : List Int) (Da D8 : Nat → Ad) (V : World) : Prop where
  s : TnS w bl bc x y xs ys c d 0 p r us cp cr V
  c6 : V.cell? ⟨b6, 2, none⟩ = some (.slice aa na ca)
  c7 : V.cell? ⟨b7, 2, none⟩ = some (.slice a7 n7 c7)
  c8 : V.cell? ⟨b8, 2, none⟩ = some (.slice a8 n8 c8)
  ra : RecsRead V aa na (lgR al) Da
  ru8 : RecsRead V a8 n8 (lgR us) D8
theorem TnT.up {w : World} {bl bc : Nat} {x y : Option Addr} {xs ys : List Int} {c d : Nat} {p r : Option Addr} {us : List Int} {cp cr b6 b7 b8 : Nat} {aa a7 a8 : Option Addr} {na n7 n8 ca c7 c8 : Nat} {al : List Int} {Da D8 : Nat → Ad} {V W : World} (h : TnT w bl bc x y xs ys c d p r us cp cr b6 b7 b8 aa a7 a8 na n7 n8 ca c7 c8 al Da D8 V) (hb : Below V.heap.size V W) : TnT w bl bc x y xs ys c d p r us cp cr b6 b7 b8 aa a7 a8 na n7 n8 ca c7 c8 al Da D8 W :=
  ⟨h.s.up hb, cellUp hb h.c6, cellUp hb h.c7, cellUp hb h.c8, h.ra.below hb (Nat.le_refl _), h.ru8.below hb (Nat.le_refl _)⟩

set_option maxRecDepth 20000 in
set_option maxHeartbeats 4000000 in
theorem lawTorn_fits (a : Option Addr) (n c : Nat) (zs : List Int) (w : World) (rd : Dr.Reads w a zs) (hn : zs.length = n) (hm : n ≤ 1048576) (hz : ∀ z ∈ zs, 0 ≤ z ∧ z ≤ 255) :
    Calls Try.prog 4 #[.slice a n c] w fun e w' => e = .returned (.bool true) ∧ Below w.heap.size w w' := by
  have hf0 : ∀ (q : Int) (p r : Option Addr) (n c m d : Nat) (W : World), (Instr.field 40 (.agg #[.int .i64 q, .slice p n c, .slice r m d]) 0).run Try.prog W = .ok (.int .i64 q) W := fun _ _ _ _ _ _ _ _ => by kernel_rfl
  have hf1 : ∀ (q : Int) (p r : Option Addr) (n c m d : Nat) (W : World), (Instr.field 40 (.agg #[.int .i64 q, .slice p n c, .slice r m d]) 1).run Try.prog W = .ok (.agg #[.slice p n c, .slice r m d]) W := fun _ _ _ _ _ _ _ _ => by kernel_rfl
  have hf2 : ∀ (p r : Option Addr) (n c m d : Nat) (W : World), (Instr.field 33 (.agg #[.slice p n c, .slice r m d]) 0).run Try.prog W = .ok (.slice p n c) W := fun _ _ _ _ _ _ _ => by kernel_rfl
  have hf3 : ∀ (q u : Int) (p : Option Addr) (n c : Nat) (W : World), (Instr.field 30 (.agg #[.int .i64 q, .int .i64 u, .slice p n c]) 2).run Try.prog W = .ok (.slice p n c) W := fun _ _ _ _ _ _ => by kernel_rfl
  go_enter Try.func4, Try.ntmps4
  go_wp2_with fail
  refine (lwBig_small a n c _ hm).mono ?_
  rintro e w0 ⟨rfl, h0⟩
  rw [h0]
  clear h0 w0
  go_wp2_with fail
  refine (drawCrashLog_any a n c zs _ rd hn hm hz).mono ?_
  rintro e w1 ⟨x, y, xs, ys, nn, cc, m, d, k, rfl, hB, g1⟩
  obtain ⟨hxl, hyl, hc1, hc2, hd1, hd2, hbx, hby, hxb, hyb, hsz⟩ := hB
  subst hxl hyl
  have rx := hbx.reads
  have ry := hby.reads
  clear rd hn hm hz hbx hby
  go_upto_region 4 with (fail)
  generalize hY : World.alloc _ _ = Y
  have gY : Below w1.heap.size w1 Y := by rw [← hY]; go_grown
  have hL : LgAt Y w1.heap.size x xs.length cc y ys.length d := by rw [← hY]; exact ⟨by simp [go_sem], by simp [go_sem]⟩
  have rx := rx.below gY (Nat.le_refl _)
  have ry := ry.below gY (Nat.le_refl _)
  have g1 := g1.trans (gY.mono g1.size)
  generalize w1.heap.size = bl at hL ⊢
  clear hY gY
  have HI : Hid (∀ X, Reads X x xs → Reads X y ys → Calls Try.prog 26 #[.agg #[.slice x xs.length cc, .slice y ys.length d], .int .i64 k] X fun e w' => LgPost X (crQ xs ys k) (crB xs ys k) [] e w') := fun X h1 h2 => implCrashLog_any x y xs ys cc d k X (by omega) (by omega) hc1 hd1 hc2 hd2 h1 h2 hxb hyb
  have HP : Hid (∀ X, Reads X x xs → Reads X y ys → Calls Try.prog 27 #[.agg #[.slice x xs.length cc, .slice y ys.length d], .int .i64 k] X fun e w' => LgPost X (crQ xs ys k) (crB xs ys k) [] e w') := fun X h1 h2 => specCrashLog_any x y xs ys cc d k X (by omega) (by omega) hc1 hd1 hc2 hd2 h1 h2 hxb hyb
  have L0 := hL.c0
  have L1 := hL.c1
  go_wp2_with fail
  refine (HI.out _ rx ry).mono ?_
  intro e w2 hp
  obtain ⟨p, cp, r, cr, mid, rfl, hcp, hcr, hcp2, hcr2, g2, hLi⟩ := hp
  have hru := hLi.s.reads
  have hL := hL.up g2
  have rx := rx.below g2 (Nat.le_refl _)
  have ry := ry.below g2 (Nat.le_refl _)
  have g1 := g1.trans (g2.mono g1.size)
  clear L0 L1 hLi g2
  rw [List.length_nil] at hcr ⊢
  go_upto_region 5 with (fail)
  generalize hY : World.alloc _ _ = Y2
  have gY : Below w2.heap.size w2 Y2 := by rw [← hY]; go_grown
  have hD : TnS w bl w2.heap.size x y xs ys cc d (crQ xs ys k) p r (crB xs ys k) cp cr Y2 := ⟨hL.up gY, by rw [← hY]; simp [go_sem], by rw [← hY]; simp [go_sem], by rw [← hY]; simp [go_sem], rx.below gY (Nat.le_refl _), ry.below gY (Nat.le_refl _), hru.below gY (Nat.le_refl _), g1.trans (gY.mono g1.size)⟩
  generalize w2.heap.size = bc at hD ⊢
  clear hY gY hL rx ry hru g1 HI
  have HT : Hid (crQ xs ys k = 0 → _) := torn
  have HBz : Hid (∀ z ∈ crB xs ys k, 0 ≤ z ∧ z ≤ 255) := crB_bd hxb hyb
  have HBl : Hid ((crB xs ys k).length ≤ 18000) := crB_len hsz
  generalize crB xs ys k = us at *
  generalize hqq : crQ xs ys k = q at *
  have C0 := hD.c0
  by_cases hq : q = 0
  · subst hq
    have hT := HT.out rfl
    clear HT
    have HRl : Hid (∀ (X : World) (pz : Option Addr) (cz : Nat), (xs ++ ys).length ≤ cz → cz ≤ 9223372036854775807 → Reads X pz (xs ++ ys) → Calls Try.prog 19 #[.slice pz (xs ++ ys).length cz] X fun e w' => RlPost X (xs ++ ys) e w') := fun X pz cz h1 h2 h3 => implReadLog_any (xs ++ ys) pz cz X (by rw [List.length_append]; omega) h1 h2 h3 (fun z hz => by
      rcases List.mem_append.1 hz with h | h
      · exact hxb z h
      · exact hyb z h)
    obtain ⟨al, hal⟩ : ∃ al, xs ++ ys = al := ⟨_, rfl⟩
    rw [hal] at HRl hT
    have HAl : Hid (xs ++ ys = al) := hal
    clear hal
    go_upto_region 7 with (fail)
    clear C0
    go_cut [6] from 10 (fun s6 wc => ∃ (b6 : Nat) (aa : Option Addr) (ca : Nat) (Da : Nat → Ad), s6 = .pointer (some ⟨b6, 0, none⟩) ∧ TnS w bl bc x y xs ys cc d 0 p r us cp cr wc ∧ wc.cell? ⟨b6, 2, none⟩ = some (.slice aa (rlN al) ca) ∧ RecsRead wc aa (rlN al) (lgR al) Da ∧ rlN al ≤ ca ∧ ca ≤ 9223372036854775807)
    case first =>
      refine wp_region_held_drew (S := fun V => TnS w bl bc x y xs ys cc d 0 p r us cp cr V) (by kernel_rfl) (hD.up (Below.refl _ _).drew) (fun hHeld => ?_)
      generalize Y2.drew = D at hHeld ⊢
      clear hD
      obtain ⟨D0, hD0⟩ : ∃ D0, D0 = D.heap.size := ⟨_, rfl⟩
      have HUp : Hid (∀ V, Below D0 D V → TnS w bl bc x y xs ys cc d 0 p r us cp cr V) := fun V g => hHeld.up (by rw [← hD0]; exact g)
      have gD : Below D0 D D := Below.refl _ _
      have hDs : D0 ≤ D.heap.size := Nat.le_of_eq hD0
      clear hD0
      refine wpAnyH_take (i := 1) (v := ?v1) rfl (by kernel_rfl) (by kernel_rfl) (by kernel_rfl) (fun _ _ _ h => h) (Or.inl ⟨by kernel_rfl, ?h1⟩) hHeld ?_
      case h1 => intro u hSw; (try dsimp only at hSw); go_simp; try with_reducible rfl
      try simp only [List.getElem_toArray]
      try simp only [List.getElem_cons_succ]
      try simp only [List.getElem_cons_zero]
      try simp only [Act.put]
      try simp only [List.setIfInBounds_toArray]
      try simp only [List.set]
      refine wpAnyH_take (i := 2) (v := ?v2) rfl (by kernel_rfl) (by kernel_rfl) (by kernel_rfl) (fun _ _ _ h => h) (Or.inl ⟨by kernel_rfl, ?h2⟩) hHeld ?_
      case h2 => intro u hSw; obtain ⟨q0, q1⟩ := hSw.l; clear hSw; go_simp; try with_reducible rfl
      try simp only [List.getElem_toArray]
      try simp only [List.getElem_cons_succ]
      try simp only [List.getElem_cons_zero]
      try simp only [Act.put]
      try simp only [List.setIfInBounds_toArray]
      try simp only [List.set]
      refine wpAnyH_take (i := 4) (v := ?v3) rfl (by kernel_rfl) (by kernel_rfl) (by kernel_rfl) (fun _ _ _ h => h) (Or.inl ⟨by kernel_rfl, ?h3⟩) hHeld ?_
      case h3 => intro u hSw; (try dsimp only at hSw); go_simp; try with_reducible rfl
      try simp only [List.getElem_toArray]
      try simp only [List.getElem_cons_succ]
      try simp only [List.getElem_cons_zero]
      try simp only [Act.put]
      try simp only [List.setIfInBounds_toArray]
      try simp only [List.set]
      refine wpAnyH_take (i := 5) (v := ?v4) rfl (by kernel_rfl) (by kernel_rfl) (by kernel_rfl) (fun _ _ _ h => h) (Or.inl ⟨by kernel_rfl, ?h4⟩) hHeld ?_
      case h4 => intro u hSw; obtain ⟨q0, q1⟩ := hSw.l; clear hSw; go_simp; try with_reducible rfl
      try simp only [List.getElem_toArray]
      try simp only [List.getElem_cons_succ]
      try simp only [List.getElem_cons_zero]
      try simp only [Act.put]
      try simp only [List.setIfInBounds_toArray]
      try simp only [List.set]
      refine wpAnyH_ready (rs := [0, 8]) (by kernel_rfl) (by simp) ?_
      refine AllReadyH.cons rfl (fun K hK => ?_) (AllReadyH.cons rfl (fun K hK => ?_) AllReadyH.nil)
      · have gg : Below D.heap.size D (D.alloc (.cells #[] 5)) := by go_grown
        have hG : Gb D.heap.size (D.alloc (.cells #[] 5)) (.slice (some ⟨D.heap.size, 0, none⟩) 0 0) [] := Gb.lit _ _ (Nat.le_refl _)
        have hG := hG.low (Nat.le_trans hDs gD.size)
        have gD := gD.trans (gg.mono (Nat.le_trans hDs gD.size))
        go_simp
        refine hK.out _ _ (HUp.out _ gD) (fun hHeld => ?_)
        clear hK K gg
        generalize (D.alloc (.cells #[] 5)) = W1 at hHeld gD hG ⊢
        generalize D.heap.size = bb at hG ⊢
        try simp only [Act.put]
        try simp only [List.setIfInBounds_toArray]
        try simp only [List.set]
        refine wpAnyH_ready (rs := [3, 8]) (by kernel_rfl) (by simp) ?_
        refine AllReadyH.cons rfl (fun K hK => ?_) (AllReadyH.cons rfl (fun K hK => ?_) AllReadyH.nil)
        · refine wp_append_bytes _ _ _ rfl D0 (.slice (some ⟨bb, 0, none⟩) 0 0) [] xs x xs.length cc rfl rfl rfl hG (HUp.out _ gD).rx (by simp; omega) (Nat.le_trans hDs gD.size) ?_
          intro v4 W2 hG' hgr hat
          have gD' : Below D0 D W2 := Below.grown gD hgr (Nat.le_trans hDs gD.size) (fun q e => (World.ownsRow.lt hG q e).1)
          have hG := hG'
          have gD := gD'
          clear hG' gD' hgr hat
          refine hK.out _ _ (HUp.out _ gD) (fun hHeld => ?_)
          clear hK K
          try simp only [Act.put]
          try simp only [List.setIfInBounds_toArray]
          try simp only [List.set]
          refine wpAnyH_ready (rs := [6, 8]) (by kernel_rfl) (by simp) ?_
          refine AllReadyH.cons rfl (fun K hK => ?_) (AllReadyH.cons rfl (fun K hK => ?_) AllReadyH.nil)
          · refine wp_append_bytes _ _ _ rfl D0 v4 ([] ++ xs) ys y ys.length d rfl rfl rfl hG (HUp.out _ gD).ry (by simp; omega) (Nat.le_trans hDs gD.size) ?_
            intro v5 W3 hG' hgr hat
            have gD' : Below D0 D W3 := Below.grown gD hgr (Nat.le_trans hDs gD.size) (fun q e => (World.ownsRow.lt hG q e).1)
            have hG := hG'
            have gD := gD'
            clear hG' gD' hgr hat
            refine hK.out _ _ (HUp.out _ gD) (fun hHeld => ?_)
            clear hK K
            try simp only [Act.put]
            try simp only [List.setIfInBounds_toArray]
            try simp only [List.set]
            refine wpAnyH_ready (rs := [7, 8]) (by kernel_rfl) (by simp) ?_
            refine AllReadyH.cons rfl (fun K hK => ?_) (AllReadyH.cons rfl (fun K hK => ?_) AllReadyH.nil)
            · have hG : Gb D0 W3 v5 al := by have h := hG; rw [List.nil_append, HAl.out] at h; exact h
              obtain ⟨pz, cz, hvz, hz1, hz2, hzb, _⟩ := hG.shape
              subst hvz
              have hzr := hzb.reads
              clear hG hzb
              go_simp
              go_wp2_with (go_at_call 19; refine (HRl.out _ _ _ hz1 hz2 hzr).mono ?_; rintro e W4 ⟨aa, ca, Da, rfl, gg, hO, hca, hca2⟩)
              have gD := gD.trans (gg.mono (Nat.le_trans hDs gD.size))
              have hle : W4.heap.size ≤ W4.heap.size := Nat.le_refl _
              refine hK.out _ _ (HUp.out _ gD) (fun hHeld => ?_)
              clear hK K gg
              obtain ⟨lo, hi, hO, hle⟩ : ∃ lo hi, OwnRS lo hi W4 aa (rlN al) (lgR al) Da ∧ hi ≤ W4.heap.size := ⟨_, _, hO, hle⟩
              try simp only [Act.put]
              try simp only [List.setIfInBounds_toArray]
              try simp only [List.set]
              refine wpAnyH_ready (rs := [8]) (by kernel_rfl) (by simp) ?_
              refine AllReadyH.cons rfl (fun K hK => ?_) AllReadyH.nil
              have gg : Below W4.heap.size W4 (W4.alloc (.cells #[.int .i64 0, .int .i64 0, .slice none 0 0] 30)) := by go_grown
              have hab : D0 ≤ W4.heap.size := Nat.le_trans hDs gD.size
              have hN : N3 (W4.alloc (.cells #[.int .i64 0, .int .i64 0, .slice none 0 0] 30)) W4.heap.size := ⟨by simp [go_sem], by simp [go_sem], by simp [go_sem], by simp [go_sem], by simp [go_sem], by simp [go_sem]⟩
              have hpos : hi ≤ W4.heap.size ∨ W4.heap.size + 1 ≤ lo := .inl hle
              have hO := hO.below gg
              have gD := gD.trans (gg.mono (Nat.le_trans hDs gD.size))
              go_simp
              refine hK.out _ _ (HUp.out _ gD) (fun hHeld => ?_)
              clear hK K gg
              generalize W4.alloc (.cells #[.int .i64 0, .int .i64 0, .slice none 0 0] 30) = W5 at hHeld hN gD hO ⊢
              generalize W4.heap.size = ab at hN hab hpos ⊢
              try simp only [Act.put]
              try simp only [List.setIfInBounds_toArray]
              try simp only [List.set]
              have T : Turned ab (ab + 1) W5 (((W5.setCell ⟨ab, 0, none⟩ (.int .i64 (rlQ al))).setCell ⟨ab, 1, none⟩ (.int .i64 (rlU al))).setCell ⟨ab, 2, none⟩ (.slice aa (rlN al) ca)) := (((Turned.refl _ _ W5).setCell (p := ⟨ab, 0, none⟩) (Nat.le_refl _) (Nat.lt_succ_self _) _).setCell (p := ⟨ab, 1, none⟩) (Nat.le_refl _) (Nat.lt_succ_self _) _).setCell (p := ⟨ab, 2, none⟩) (Nat.le_refl _) (Nat.lt_succ_self _) _
              have gE : Below D0 D (((W5.setCell ⟨ab, 0, none⟩ (.int .i64 (rlQ al))).setCell ⟨ab, 1, none⟩ (.int .i64 (rlU al))).setCell ⟨ab, 2, none⟩ (.slice aa (rlN al) ca)) := gD.trans (T.toBelow (Nat.le_trans hDs gD.size) hab)
              have HE : Hid (TnS w bl bc x y xs ys cc d 0 p r us cp cr (((W5.setCell ⟨ab, 0, none⟩ (.int .i64 (rlQ al))).setCell ⟨ab, 1, none⟩ (.int .i64 (rlU al))).setCell ⟨ab, 2, none⟩ (.slice aa (rlN al) ca))) := HUp.out _ gE
              have HO : Hid (RecsRead (((W5.setCell ⟨ab, 0, none⟩ (.int .i64 (rlQ al))).setCell ⟨ab, 1, none⟩ (.int .i64 (rlU al))).setCell ⟨ab, 2, none⟩ (.slice aa (rlN al) ca)) aa (rlN al) (lgR al) Da) := (hO.turned T hpos).recs
              obtain ⟨a0, a1, a2, f0, f1, f2⟩ := hN
              have HC2 : Hid ((((W5.setCell ⟨ab, 0, none⟩ (.int .i64 (rlQ al))).setCell ⟨ab, 1, none⟩ (.int .i64 (rlU al))).setCell ⟨ab, 2, none⟩ (.slice aa (rlN al) ca)).cell? ⟨ab, 2, none⟩ = some (.slice aa (rlN al) ca)) := World.cell?_setCell_same _ _ _ (by rw [World.cell?_setCell_other _ _ _ _ (by simp), World.cell?_setCell_other _ _ _ _ (by simp)]; exact a2)
              refine wpAnyH_ready (rs := [9]) (by kernel_rfl) (by simp) ?_
              refine AllReadyH.cons rfl (fun K hK => ?_) AllReadyH.nil
              go_simp
              refine hK.out _ _ HE.out (fun hHeld => ?_)
              clear hK K
              try simp only [Act.put]
              try simp only [List.setIfInBounds_toArray]
              try simp only [List.set]
              refine wpAnyH_done (by kernel_rfl) ?_ _
              go_wp2_with fail
              go_meet
              case rel => exact ⟨ab, aa, ca, Da, rfl, HE.out, HC2.out, HO.out, hca, hca2⟩
            · have gg : Below W3.heap.size W3 (W3.alloc (.cells #[.int .i64 0, .int .i64 0, .slice none 0 0] 30)) := by go_grown
              have hab : D0 ≤ W3.heap.size := Nat.le_trans hDs gD.size
              have hN : N3 (W3.alloc (.cells #[.int .i64 0, .int .i64 0, .slice none 0 0] 30)) W3.heap.size := ⟨by simp [go_sem], by simp [go_sem], by simp [go_sem], by simp [go_sem], by simp [go_sem], by simp [go_sem]⟩
              have hne : ∀ g, (Value.ownBlock (v5)) = some g → g ≠ W3.heap.size := fun g e => by have := (World.ownsRow.lt hG g e).2; omega
              have hG := hG.grown gg
              have gD := gD.trans (gg.mono (Nat.le_trans hDs gD.size))
              go_simp
              refine hK.out _ _ (HUp.out _ gD) (fun hHeld => ?_)
              clear hK K gg
              generalize W3.alloc (.cells #[.int .i64 0, .int .i64 0, .slice none 0 0] 30) = W6 at hHeld hN gD hG ⊢
              generalize W3.heap.size = ab at hN hab hne ⊢
              try simp only [Act.put]
              try simp only [List.setIfInBounds_toArray]
              try simp only [List.set]
              refine wpAnyH_ready (rs := [7]) (by kernel_rfl) (by simp) ?_
              refine AllReadyH.cons rfl (fun K hK => ?_) AllReadyH.nil
              have hG : Gb D0 W6 v5 al := by have h := hG; rw [List.nil_append, HAl.out] at h; exact h
              obtain ⟨pz, cz, hvz, hz1, hz2, hzb, _⟩ := hG.shape
              subst hvz
              have hzr := hzb.reads
              clear hG hzb hne
              go_simp
              go_wp2_with (go_at_call 19; refine (HRl.out _ _ _ hz1 hz2 hzr).mono ?_; rintro e W7 ⟨aa, ca, Da, rfl, gg, hO, hca, hca2⟩)
              have hNl := hN.lt
              have hN := hN.up gg
              have hpos : W7.heap.size ≤ ab ∨ ab + 1 ≤ W6.heap.size := .inr hNl
              have gD := gD.trans (gg.mono (Nat.le_trans hDs gD.size))
              have hle : W7.heap.size ≤ W7.heap.size := Nat.le_refl _
              refine hK.out _ _ (HUp.out _ gD) (fun hHeld => ?_)
              clear hK K gg
              try simp only [Act.put]
              try simp only [List.setIfInBounds_toArray]
              try simp only [List.set]
              have T : Turned ab (ab + 1) W7 (((W7.setCell ⟨ab, 0, none⟩ (.int .i64 (rlQ al))).setCell ⟨ab, 1, none⟩ (.int .i64 (rlU al))).setCell ⟨ab, 2, none⟩ (.slice aa (rlN al) ca)) := (((Turned.refl _ _ W7).setCell (p := ⟨ab, 0, none⟩) (Nat.le_refl _) (Nat.lt_succ_self _) _).setCell (p := ⟨ab, 1, none⟩) (Nat.le_refl _) (Nat.lt_succ_self _) _).setCell (p := ⟨ab, 2, none⟩) (Nat.le_refl _) (Nat.lt_succ_self _) _
              have gE : Below D0 D (((W7.setCell ⟨ab, 0, none⟩ (.int .i64 (rlQ al))).setCell ⟨ab, 1, none⟩ (.int .i64 (rlU al))).setCell ⟨ab, 2, none⟩ (.slice aa (rlN al) ca)) := gD.trans (T.toBelow (Nat.le_trans hDs gD.size) hab)
              have HE : Hid (TnS w bl bc x y xs ys cc d 0 p r us cp cr (((W7.setCell ⟨ab, 0, none⟩ (.int .i64 (rlQ al))).setCell ⟨ab, 1, none⟩ (.int .i64 (rlU al))).setCell ⟨ab, 2, none⟩ (.slice aa (rlN al) ca))) := HUp.out _ gE
              have HO : Hid (RecsRead (((W7.setCell ⟨ab, 0, none⟩ (.int .i64 (rlQ al))).setCell ⟨ab, 1, none⟩ (.int .i64 (rlU al))).setCell ⟨ab, 2, none⟩ (.slice aa (rlN al) ca)) aa (rlN al) (lgR al) Da) := (hO.turned T hpos).recs
              obtain ⟨a0, a1, a2, f0, f1, f2⟩ := hN
              have HC2 : Hid ((((W7.setCell ⟨ab, 0, none⟩ (.int .i64 (rlQ al))).setCell ⟨ab, 1, none⟩ (.int .i64 (rlU al))).setCell ⟨ab, 2, none⟩ (.slice aa (rlN al) ca)).cell? ⟨ab, 2, none⟩ = some (.slice aa (rlN al) ca)) := World.cell?_setCell_same _ _ _ (by rw [World.cell?_setCell_other _ _ _ _ (by simp), World.cell?_setCell_other _ _ _ _ (by simp)]; exact a2)
              refine wpAnyH_ready (rs := [9]) (by kernel_rfl) (by simp) ?_
              refine AllReadyH.cons rfl (fun K hK => ?_) AllReadyH.nil
              go_simp
              refine hK.out _ _ HE.out (fun hHeld => ?_)
              clear hK K
              try simp only [Act.put]
              try simp only [List.setIfInBounds_toArray]
              try simp only [List.set]
              refine wpAnyH_done (by kernel_rfl) ?_ _
              go_wp2_with fail
              go_meet
              case rel => exact ⟨ab, aa, ca, Da, rfl, HE.out, HC2.out, HO.out, hca, hca2⟩
          · have gg : Below W2.heap.size W2 (W2.alloc (.cells #[.int .i64 0, .int .i64 0, .slice none 0 0] 30)) := by go_grown
            have hab : D0 ≤ W2.heap.size := Nat.le_trans hDs gD.size
            have hN : N3 (W2.alloc (.cells #[.int .i64 0, .int .i64 0, .slice none 0 0] 30)) W2.heap.size := ⟨by simp [go_sem], by simp [go_sem], by simp [go_sem], by simp [go_sem], by simp [go_sem], by simp [go_sem]⟩
            have hne : ∀ g, (Value.ownBlock (v4)) = some g → g ≠ W2.heap.size := fun g e => by have := (World.ownsRow.lt hG g e).2; omega
            have hG := hG.grown gg
            have gD := gD.trans (gg.mono (Nat.le_trans hDs gD.size))
            go_simp
            refine hK.out _ _ (HUp.out _ gD) (fun hHeld => ?_)
            clear hK K gg
            generalize W2.alloc (.cells #[.int .i64 0, .int .i64 0, .slice none 0 0] 30) = W8 at hHeld hN gD hG ⊢
            generalize W2.heap.size = ab at hN hab hne ⊢
            try simp only [Act.put]
            try simp only [List.setIfInBounds_toArray]
            try simp only [List.set]
            refine wpAnyH_ready (rs := [6]) (by kernel_rfl) (by simp) ?_
            refine AllReadyH.cons rfl (fun K hK => ?_) AllReadyH.nil
            refine wp_append_bytes _ _ _ rfl D0 v4 ([] ++ xs) ys y ys.length d rfl rfl rfl hG (HUp.out _ gD).ry (by simp; omega) (Nat.le_trans hDs gD.size) ?_
            intro v5 W9 hG' hgr hat
            have gD' : Below D0 D W9 := Below.grown gD hgr (Nat.le_trans hDs gD.size) (fun q e => (World.ownsRow.lt hG q e).1)
            have hNl := hN.lt
            have hN := hN.blk (hgr.block ab hNl (fun e => hne ab e.symm rfl))
            have hne : ∀ g, v5.ownBlock = some g → g ≠ ab := fun g e => by
              rcases hat with h | h
              · exact hne g (h.symm.trans e)
              · rw [h] at e; injection e with e; omega
            have hG := hG'
            have gD := gD'
            clear hG' gD' hgr hat
            refine hK.out _ _ (HUp.out _ gD) (fun hHeld => ?_)
            clear hK K
            try simp only [Act.put]
            try simp only [List.setIfInBounds_toArray]
            try simp only [List.set]
            refine wpAnyH_ready (rs := [7]) (by kernel_rfl) (by simp) ?_
            refine AllReadyH.cons rfl (fun K hK => ?_) AllReadyH.nil
            have hG : Gb D0 W9 v5 al := by have h := hG; rw [List.nil_append, HAl.out] at h; exact h
            obtain ⟨pz, cz, hvz, hz1, hz2, hzb, _⟩ := hG.shape
            subst hvz
            have hzr := hzb.reads
            clear hG hzb hne
            go_simp
            go_wp2_with (go_at_call 19; refine (HRl.out _ _ _ hz1 hz2 hzr).mono ?_; rintro e W10 ⟨aa, ca, Da, rfl, gg, hO, hca, hca2⟩)
            have hNl := hN.lt
            have hN := hN.up gg
            have hpos : W10.heap.size ≤ ab ∨ ab + 1 ≤ W9.heap.size := .inr hNl
            have gD := gD.trans (gg.mono (Nat.le_trans hDs gD.size))
            have hle : W10.heap.size ≤ W10.heap.size := Nat.le_refl _
            refine hK.out _ _ (HUp.out _ gD) (fun hHeld => ?_)
            clear hK K gg
            try simp only [Act.put]
            try simp only [List.setIfInBounds_toArray]
            try simp only [List.set]
            have T : Turned ab (ab + 1) W10 (((W10.setCell ⟨ab, 0, none⟩ (.int .i64 (rlQ al))).setCell ⟨ab, 1, none⟩ (.int .i64 (rlU al))).setCell ⟨ab, 2, none⟩ (.slice aa (rlN al) ca)) := (((Turned.refl _ _ W10).setCell (p := ⟨ab, 0, none⟩) (Nat.le_refl _) (Nat.lt_succ_self _) _).setCell (p := ⟨ab, 1, none⟩) (Nat.le_refl _) (Nat.lt_succ_self _) _).setCell (p := ⟨ab, 2, none⟩) (Nat.le_refl _) (Nat.lt_succ_self _) _
            have gE : Below D0 D (((W10.setCell ⟨ab, 0, none⟩ (.int .i64 (rlQ al))).setCell ⟨ab, 1, none⟩ (.int .i64 (rlU al))).setCell ⟨ab, 2, none⟩ (.slice aa (rlN al) ca)) := gD.trans (T.toBelow (Nat.le_trans hDs gD.size) hab)
            have HE : Hid (TnS w bl bc x y xs ys cc d 0 p r us cp cr (((W10.setCell ⟨ab, 0, none⟩ (.int .i64 (rlQ al))).setCell ⟨ab, 1, none⟩ (.int .i64 (rlU al))).setCell ⟨ab, 2, none⟩ (.slice aa (rlN al) ca))) := HUp.out _ gE
            have HO : Hid (RecsRead (((W10.setCell ⟨ab, 0, none⟩ (.int .i64 (rlQ al))).setCell ⟨ab, 1, none⟩ (.int .i64 (rlU al))).setCell ⟨ab, 2, none⟩ (.slice aa (rlN al) ca)) aa (rlN al) (lgR al) Da) := (hO.turned T hpos).recs
            obtain ⟨a0, a1, a2, f0, f1, f2⟩ := hN
            have HC2 : Hid ((((W10.setCell ⟨ab, 0, none⟩ (.int .i64 (rlQ al))).setCell ⟨ab, 1, none⟩ (.int .i64 (rlU al))).setCell ⟨ab, 2, none⟩ (.slice aa (rlN al) ca)).cell? ⟨ab, 2, none⟩ = some (.slice aa (rlN al) ca)) := World.cell?_setCell_same _ _ _ (by rw [World.cell?_setCell_other _ _ _ _ (by simp), World.cell?_setCell_other _ _ _ _ (by simp)]; exact a2)
            refine wpAnyH_ready (rs := [9]) (by kernel_rfl) (by simp) ?_
            refine AllReadyH.cons rfl (fun K hK => ?_) AllReadyH.nil
            go_simp
            refine hK.out _ _ HE.out (fun hHeld => ?_)
            clear hK K
            try simp only [Act.put]
            try simp only [List.setIfInBounds_toArray]
            try simp only [List.set]
            refine wpAnyH_done (by kernel_rfl) ?_ _
            go_wp2_with fail
            go_meet
            case rel => exact ⟨ab, aa, ca, Da, rfl, HE.out, HC2.out, HO.out, hca, hca2⟩
        · have gg : Below W1.heap.size W1 (W1.alloc (.cells #[.int .i64 0, .int .i64 0, .slice none 0 0] 30)) := by go_grown
          have hab : D0 ≤ W1.heap.size := Nat.le_trans hDs gD.size
          have hN : N3 (W1.alloc (.cells #[.int .i64 0, .int .i64 0, .slice none 0 0] 30)) W1.heap.size := ⟨by simp [go_sem], by simp [go_sem], by simp [go_sem], by simp [go_sem], by simp [go_sem], by simp [go_sem]⟩
          have hne : ∀ g, (Value.ownBlock (Value.slice (some ⟨bb, 0, none⟩) 0 0)) = some g → g ≠ W1.heap.size := fun g e => by have := (World.ownsRow.lt hG g e).2; omega
          have hG := hG.grown gg
          have gD := gD.trans (gg.mono (Nat.le_trans hDs gD.size))
          go_simp
          refine hK.out _ _ (HUp.out _ gD) (fun hHeld => ?_)
          clear hK K gg
          generalize W1.alloc (.cells #[.int .i64 0, .int .i64 0, .slice none 0 0] 30) = W11 at hHeld hN gD hG ⊢
          generalize W1.heap.size = ab at hN hab hne ⊢
          try simp only [Act.put]
          try simp only [List.setIfInBounds_toArray]
          try simp only [List.set]
          refine wpAnyH_ready (rs := [3]) (by kernel_rfl) (by simp) ?_
          refine AllReadyH.cons rfl (fun K hK => ?_) AllReadyH.nil
          refine wp_append_bytes _ _ _ rfl D0 (.slice (some ⟨bb, 0, none⟩) 0 0) [] xs x xs.length cc rfl rfl rfl hG (HUp.out _ gD).rx (by simp; omega) (Nat.le_trans hDs gD.size) ?_
          intro v4 W12 hG' hgr hat
          have gD' : Below D0 D W12 := Below.grown gD hgr (Nat.le_trans hDs gD.size) (fun q e => (World.ownsRow.lt hG q e).1)
          have hNl := hN.lt
          have hN := hN.blk (hgr.block ab hNl (fun e => hne ab e.symm rfl))
          have hne : ∀ g, v4.ownBlock = some g → g ≠ ab := fun g e => by
            rcases hat with h | h
            · exact hne g (h.symm.trans e)
            · rw [h] at e; injection e with e; omega
          have hG := hG'
          have gD := gD'
          clear hG' gD' hgr hat
          refine hK.out _ _ (HUp.out _ gD) (fun hHeld => ?_)
          clear hK K
          try simp only [Act.put]
          try simp only [List.setIfInBounds_toArray]
          try simp only [List.set]
          refine wpAnyH_ready (rs := [6]) (by kernel_rfl) (by simp) ?_
          refine AllReadyH.cons rfl (fun K hK => ?_) AllReadyH.nil
          refine wp_append_bytes _ _ _ rfl D0 v4 ([] ++ xs) ys y ys.length d rfl rfl rfl hG (HUp.out _ gD).ry (by simp; omega) (Nat.le_trans hDs gD.size) ?_
          intro v5 W13 hG' hgr hat
          have gD' : Below D0 D W13 := Below.grown gD hgr (Nat.le_trans hDs gD.size) (fun q e => (World.ownsRow.lt hG q e).1)
          have hNl := hN.lt
          have hN := hN.blk (hgr.block ab hNl (fun e => hne ab e.symm rfl))
          have hne : ∀ g, v5.ownBlock = some g → g ≠ ab := fun g e => by
            rcases hat with h | h
            · exact hne g (h.symm.trans e)
            · rw [h] at e; injection e with e; omega
          have hG := hG'
          have gD := gD'
          clear hG' gD' hgr hat
          refine hK.out _ _ (HUp.out _ gD) (fun hHeld => ?_)
          clear hK K
          try simp only [Act.put]
          try simp only [List.setIfInBounds_toArray]
          try simp only [List.set]
          refine wpAnyH_ready (rs := [7]) (by kernel_rfl) (by simp) ?_
          refine AllReadyH.cons rfl (fun K hK => ?_) AllReadyH.nil
          have hG : Gb D0 W13 v5 al := by have h := hG; rw [List.nil_append, HAl.out] at h; exact h
          obtain ⟨pz, cz, hvz, hz1, hz2, hzb, _⟩ := hG.shape
          subst hvz
          have hzr := hzb.reads
          clear hG hzb hne
          go_simp
          go_wp2_with (go_at_call 19; refine (HRl.out _ _ _ hz1 hz2 hzr).mono ?_; rintro e W14 ⟨aa, ca, Da, rfl, gg, hO, hca, hca2⟩)
          have hNl := hN.lt
          have hN := hN.up gg
          have hpos : W14.heap.size ≤ ab ∨ ab + 1 ≤ W13.heap.size := .inr hNl
          have gD := gD.trans (gg.mono (Nat.le_trans hDs gD.size))
          have hle : W14.heap.size ≤ W14.heap.size := Nat.le_refl _
          refine hK.out _ _ (HUp.out _ gD) (fun hHeld => ?_)
          clear hK K gg
          try simp only [Act.put]
          try simp only [List.setIfInBounds_toArray]
          try simp only [List.set]
          have T : Turned ab (ab + 1) W14 (((W14.setCell ⟨ab, 0, none⟩ (.int .i64 (rlQ al))).setCell ⟨ab, 1, none⟩ (.int .i64 (rlU al))).setCell ⟨ab, 2, none⟩ (.slice aa (rlN al) ca)) := (((Turned.refl _ _ W14).setCell (p := ⟨ab, 0, none⟩) (Nat.le_refl _) (Nat.lt_succ_self _) _).setCell (p := ⟨ab, 1, none⟩) (Nat.le_refl _) (Nat.lt_succ_self _) _).setCell (p := ⟨ab, 2, none⟩) (Nat.le_refl _) (Nat.lt_succ_self _) _
          have gE : Below D0 D (((W14.setCell ⟨ab, 0, none⟩ (.int .i64 (rlQ al))).setCell ⟨ab, 1, none⟩ (.int .i64 (rlU al))).setCell ⟨ab, 2, none⟩ (.slice aa (rlN al) ca)) := gD.trans (T.toBelow (Nat.le_trans hDs gD.size) hab)
          have HE : Hid (TnS w bl bc x y xs ys cc d 0 p r us cp cr (((W14.setCell ⟨ab, 0, none⟩ (.int .i64 (rlQ al))).setCell ⟨ab, 1, none⟩ (.int .i64 (rlU al))).setCell ⟨ab, 2, none⟩ (.slice aa (rlN al) ca))) := HUp.out _ gE
          have HO : Hid (RecsRead (((W14.setCell ⟨ab, 0, none⟩ (.int .i64 (rlQ al))).setCell ⟨ab, 1, none⟩ (.int .i64 (rlU al))).setCell ⟨ab, 2, none⟩ (.slice aa (rlN al) ca)) aa (rlN al) (lgR al) Da) := (hO.turned T hpos).recs
          obtain ⟨a0, a1, a2, f0, f1, f2⟩ := hN
          have HC2 : Hid ((((W14.setCell ⟨ab, 0, none⟩ (.int .i64 (rlQ al))).setCell ⟨ab, 1, none⟩ (.int .i64 (rlU al))).setCell ⟨ab, 2, none⟩ (.slice aa (rlN al) ca)).cell? ⟨ab, 2, none⟩ = some (.slice aa (rlN al) ca)) := World.cell?_setCell_same _ _ _ (by rw [World.cell?_setCell_other _ _ _ _ (by simp), World.cell?_setCell_other _ _ _ _ (by simp)]; exact a2)
          refine wpAnyH_ready (rs := [9]) (by kernel_rfl) (by simp) ?_
          refine AllReadyH.cons rfl (fun K hK => ?_) AllReadyH.nil
          go_simp
          refine hK.out _ _ HE.out (fun hHeld => ?_)
          clear hK K
          try simp only [Act.put]
          try simp only [List.setIfInBounds_toArray]
          try simp only [List.set]
          refine wpAnyH_done (by kernel_rfl) ?_ _
          go_wp2_with fail
          go_meet
          case rel => exact ⟨ab, aa, ca, Da, rfl, HE.out, HC2.out, HO.out, hca, hca2⟩
      · have gg : Below D.heap.size D (D.alloc (.cells #[.int .i64 0, .int .i64 0, .slice none 0 0] 30)) := by go_grown
        have hab : D0 ≤ D.heap.size := Nat.le_trans hDs gD.size
        have hN : N3 (D.alloc (.cells #[.int .i64 0, .int .i64 0, .slice none 0 0] 30)) D.heap.size := ⟨by simp [go_sem], by simp [go_sem], by simp [go_sem], by simp [go_sem], by simp [go_sem], by simp [go_sem]⟩
        have gD := gD.trans (gg.mono (Nat.le_trans hDs gD.size))
        go_simp
        refine hK.out _ _ (HUp.out _ gD) (fun hHeld => ?_)
        clear hK K gg
        generalize D.alloc (.cells #[.int .i64 0, .int .i64 0, .slice none 0 0] 30) = W15 at hHeld hN gD ⊢
        generalize D.heap.size = ab at hN hab ⊢
        try simp only [Act.put]
        try simp only [List.setIfInBounds_toArray]
        try simp only [List.set]
        refine wpAnyH_ready (rs := [0]) (by kernel_rfl) (by simp) ?_
        refine AllReadyH.cons rfl (fun K hK => ?_) AllReadyH.nil
        have gg : Below W15.heap.size W15 (W15.alloc (.cells #[] 5)) := by go_grown
        have hG : Gb W15.heap.size (W15.alloc (.cells #[] 5)) (.slice (some ⟨W15.heap.size, 0, none⟩) 0 0) [] := Gb.lit _ _ (Nat.le_refl _)
        have hNl := hN.lt
        have hN := hN.up gg
        have hne : ∀ g, (Value.slice (some ⟨W15.heap.size, 0, none⟩) 0 0).ownBlock = some g → g ≠ ab := fun g e => by simp [Value.ownBlock] at e; omega
        have hG := hG.low (Nat.le_trans hDs gD.size)
        have gD := gD.trans (gg.mono (Nat.le_trans hDs gD.size))
        go_simp
        refine hK.out _ _ (HUp.out _ gD) (fun hHeld => ?_)
        clear hK K gg
        generalize (W15.alloc (.cells #[] 5)) = W16 at hHeld gD hG hN ⊢
        generalize W15.heap.size = bb at hG hne ⊢
        try simp only [Act.put]
        try simp only [List.setIfInBounds_toArray]
        try simp only [List.set]
        refine wpAnyH_ready (rs := [3]) (by kernel_rfl) (by simp) ?_
        refine AllReadyH.cons rfl (fun K hK => ?_) AllReadyH.nil
        refine wp_append_bytes _ _ _ rfl D0 (.slice (some ⟨bb, 0, none⟩) 0 0) [] xs x xs.length cc rfl rfl rfl hG (HUp.out _ gD).rx (by simp; omega) (Nat.le_trans hDs gD.size) ?_
        intro v4 W17 hG' hgr hat
        have gD' : Below D0 D W17 := Below.grown gD hgr (Nat.le_trans hDs gD.size) (fun q e => (World.ownsRow.lt hG q e).1)
        have hNl := hN.lt
        have hN := hN.blk (hgr.block ab hNl (fun e => hne ab e.symm rfl))
        have hne : ∀ g, v4.ownBlock = some g → g ≠ ab := fun g e => by
          rcases hat with h | h
          · exact hne g (h.symm.trans e)
          · rw [h] at e; injection e with e; omega
        have hG := hG'
        have gD := gD'
        clear hG' gD' hgr hat
        refine hK.out _ _ (HUp.out _ gD) (fun hHeld => ?_)
        clear hK K
        try simp only [Act.put]
        try simp only [List.setIfInBounds_toArray]
        try simp only [List.set]
        refine wpAnyH_ready (rs := [6]) (by kernel_rfl) (by simp) ?_
        refine AllReadyH.cons rfl (fun K hK => ?_) AllReadyH.nil
        refine wp_append_bytes _ _ _ rfl D0 v4 ([] ++ xs) ys y ys.length d rfl rfl rfl hG (HUp.out _ gD).ry (by simp; omega) (Nat.le_trans hDs gD.size) ?_
        intro v5 W18 hG' hgr hat
        have gD' : Below D0 D W18 := Below.grown gD hgr (Nat.le_trans hDs gD.size) (fun q e => (World.ownsRow.lt hG q e).1)
        have hNl := hN.lt
        have hN := hN.blk (hgr.block ab hNl (fun e => hne ab e.symm rfl))
        have hne : ∀ g, v5.ownBlock = some g → g ≠ ab := fun g e => by
          rcases hat with h | h
          · exact hne g (h.symm.trans e)
          · rw [h] at e; injection e with e; omega
        have hG := hG'
        have gD := gD'
        clear hG' gD' hgr hat
        refine hK.out _ _ (HUp.out _ gD) (fun hHeld => ?_)
        clear hK K
        try simp only [Act.put]
        try simp only [List.setIfInBounds_toArray]
        try simp only [List.set]
        refine wpAnyH_ready (rs := [7]) (by kernel_rfl) (by simp) ?_
        refine AllReadyH.cons rfl (fun K hK => ?_) AllReadyH.nil
        have hG : Gb D0 W18 v5 al := by have h := hG; rw [List.nil_append, HAl.out] at h; exact h
        obtain ⟨pz, cz, hvz, hz1, hz2, hzb, _⟩ := hG.shape
        subst hvz
        have hzr := hzb.reads
        clear hG hzb hne
        go_simp
        go_wp2_with (go_at_call 19; refine (HRl.out _ _ _ hz1 hz2 hzr).mono ?_; rintro e W19 ⟨aa, ca, Da, rfl, gg, hO, hca, hca2⟩)
        have hNl := hN.lt
        have hN := hN.up gg
        have hpos : W19.heap.size ≤ ab ∨ ab + 1 ≤ W18.heap.size := .inr hNl
        have gD := gD.trans (gg.mono (Nat.le_trans hDs gD.size))
        have hle : W19.heap.size ≤ W19.heap.size := Nat.le_refl _
        refine hK.out _ _ (HUp.out _ gD) (fun hHeld => ?_)
        clear hK K gg
        try simp only [Act.put]
        try simp only [List.setIfInBounds_toArray]
        try simp only [List.set]
        have T : Turned ab (ab + 1) W19 (((W19.setCell ⟨ab, 0, none⟩ (.int .i64 (rlQ al))).setCell ⟨ab, 1, none⟩ (.int .i64 (rlU al))).setCell ⟨ab, 2, none⟩ (.slice aa (rlN al) ca)) := (((Turned.refl _ _ W19).setCell (p := ⟨ab, 0, none⟩) (Nat.le_refl _) (Nat.lt_succ_self _) _).setCell (p := ⟨ab, 1, none⟩) (Nat.le_refl _) (Nat.lt_succ_self _) _).setCell (p := ⟨ab, 2, none⟩) (Nat.le_refl _) (Nat.lt_succ_self _) _
        have gE : Below D0 D (((W19.setCell ⟨ab, 0, none⟩ (.int .i64 (rlQ al))).setCell ⟨ab, 1, none⟩ (.int .i64 (rlU al))).setCell ⟨ab, 2, none⟩ (.slice aa (rlN al) ca)) := gD.trans (T.toBelow (Nat.le_trans hDs gD.size) hab)
        have HE : Hid (TnS w bl bc x y xs ys cc d 0 p r us cp cr (((W19.setCell ⟨ab, 0, none⟩ (.int .i64 (rlQ al))).setCell ⟨ab, 1, none⟩ (.int .i64 (rlU al))).setCell ⟨ab, 2, none⟩ (.slice aa (rlN al) ca))) := HUp.out _ gE
        have HO : Hid (RecsRead (((W19.setCell ⟨ab, 0, none⟩ (.int .i64 (rlQ al))).setCell ⟨ab, 1, none⟩ (.int .i64 (rlU al))).setCell ⟨ab, 2, none⟩ (.slice aa (rlN al) ca)) aa (rlN al) (lgR al) Da) := (hO.turned T hpos).recs
        obtain ⟨a0, a1, a2, f0, f1, f2⟩ := hN
        have HC2 : Hid ((((W19.setCell ⟨ab, 0, none⟩ (.int .i64 (rlQ al))).setCell ⟨ab, 1, none⟩ (.int .i64 (rlU al))).setCell ⟨ab, 2, none⟩ (.slice aa (rlN al) ca)).cell? ⟨ab, 2, none⟩ = some (.slice aa (rlN al) ca)) := World.cell?_setCell_same _ _ _ (by rw [World.cell?_setCell_other _ _ _ _ (by simp), World.cell?_setCell_other _ _ _ _ (by simp)]; exact a2)
        refine wpAnyH_ready (rs := [9]) (by kernel_rfl) (by simp) ?_
        refine AllReadyH.cons rfl (fun K hK => ?_) AllReadyH.nil
        go_simp
        refine hK.out _ _ HE.out (fun hHeld => ?_)
        clear hK K
        try simp only [Act.put]
        try simp only [List.setIfInBounds_toArray]
        try simp only [List.set]
        refine wpAnyH_done (by kernel_rfl) ?_ _
        go_wp2_with fail
        go_meet
        case rel => exact ⟨ab, aa, ca, Da, rfl, HE.out, HC2.out, HO.out, hca, hca2⟩
    case rest =>
    obtain ⟨b6, aa, ca, Da, rfl, hD, C6, hRa, hca, hca2⟩ := hcut
    have HRx : Hid (∀ X, Reads X x xs → Calls Try.prog 19 #[.slice x xs.length cc] X fun e w' => RlPost X xs e w') := fun X h => implReadLog_any xs x cc X (by omega) hc1 hc2 h hxb
    have HRu : Hid (∀ X, Reads X p us → Calls Try.prog 19 #[.slice p us.length cp] X fun e w' => RlPost X us e w') := fun X h => implReadLog_any us p cp X (by have := HBl.out; omega) hcp hcp2 h HBz.out
    have HRs : Hid (∀ (X : World) (p9 : Option Addr) (c9 : Nat), us.length ≤ c9 → c9 ≤ 9223372036854775807 → Reads X p9 us → Calls Try.prog 29 #[.slice p9 us.length c9] X fun e w' => RlPost X us e w') := fun X p9 c9 h1 h2 h => specReadLog_any us p9 c9 X (by have := HBl.out; omega) h1 h2 h HBz.out
    have HLf : Hid (∀ X, Reads X p us → Calls Try.prog 28 #[.agg #[.slice p us.length cp, .slice r 0 cr]] X fun e w' => e = .returned (.int .i64 0) ∧ Below X.heap.size X w') := fun X h => by
      have h1 := implLogFault_any p r us [] cp cr X (by have := HBl.out; omega) (by simp) hcp hcr hcp2 hcr2 h (.inl rfl) HBz.out (fun z hz => by simp at hz)
      rw [hT.2.2.2.1] at h1
      exact h1
    have HAb : Hid (∀ z ∈ al, 0 ≤ z ∧ z ≤ 255) := fun z hz => by
      rw [← HAl.out] at hz
      rcases List.mem_append.1 hz with h | h
      · exact hxb z h
      · exact hyb z h
    have L0 := hD.l.c0
    go_wp2_with fail
    refine (HRx.out _ hD.rx).mono ?_
    rintro e w4 ⟨a7, c7, D7, rfl, g4, _, hc7, hc72⟩
    have hD := hD.up g4
    have C6 := cellUp g4 C6
    have hRa := hRa.below g4 (Nat.le_refl _)
    clear L0 g4 HRx
    go_upto_region 9 with (fail)
    generalize hY : World.alloc w4 _ = Y4
    have gY : Below w4.heap.size w4 Y4 := by rw [← hY]; go_grown
    have C7 : Y4.cell? ⟨w4.heap.size, 2, none⟩ = some (.slice a7 (rlN xs) c7) := by rw [← hY]; simp [go_sem]
    have hD := hD.up gY
    have C6 := cellUp gY C6
    have hRa := hRa.below gY (Nat.le_refl _)
    generalize w4.heap.size = b7 at C7 ⊢
    clear hY gY
    have C1 := hD.c1
    go_wp2_with fail
    refine (HRu.out _ hD.ru).mono ?_
    rintro e w5 ⟨a8, c8, D8, rfl, g5, hO8, hc8, hc82⟩
    have hR8 := hO8.recs
    have hD := hD.up g5
    have C6 := cellUp g5 C6
    have C7 := cellUp g5 C7
    have hRa := hRa.below g5 (Nat.le_refl _)
    clear C1 g5 HRu hO8
    go_upto_region 10 with (fail)
    generalize hY : World.alloc w5 _ = Y5
    have gY : Below w5.heap.size w5 Y5 := by rw [← hY]; go_grown
    have C8 : Y5.cell? ⟨w5.heap.size, 2, none⟩ = some (.slice a8 (rlN us) c8) := by rw [← hY]; simp [go_sem]
    have hD := hD.up gY
    have C6 := cellUp gY C6
    have C7 := cellUp gY C7
    have hRa := hRa.below gY (Nat.le_refl _)
    have hR8 := hR8.below gY (Nat.le_refl _)
    generalize w5.heap.size = b8 at C8 ⊢
    clear hY gY
    have hsm8 := (rlN_small us).1
    have HSm : Hid (∀ X, RecsRead X a8 (rlN us) (lgR us) D8 → RecsRead X aa (rlN al) (lgR al) Da → Calls Try.prog 24 #[.slice a8 (rlN us) c8, .slice aa (rlN us) ca] X fun e w' => e = .returned (.bool true) ∧ Below X.heap.size X w') := fun X h1 h2 => by
      have h := implSameRecords_any a8 aa (rlN us) (rlN us) c8 ca (lgR us) (lgR al) D8 Da X hsm8 hsm8 h1 (h2.first hT.2.1) (fun i _ => ⟨by have := lgR_small us i; omega, fun j _ => lgR_bd HBz.out i j⟩) (fun i _ => ⟨by have := lgR_small al i; omega, fun j _ => lgR_bd HAb.out i j⟩)
      rw [hT.2.2.1] at h
      exact h
    have t1 := hT.1
    have t2 := hT.2.1
    have t5 := hT.2.2.2.2
    clear hT
    generalize hn8 : rlN us = n8 at *
    have HN8 : Hid (rlN us = n8) := hn8
    clear hn8
    generalize rlN al = na at *
    generalize rlN xs = n7 at *
    have d1 : (n7 : Int) ≤ (n8 : Int) := by omega
    have d2 : (n8 : Int) ≤ (na : Int) := by omega
    have d3 : n8 ≤ ca := by omega
    have d4 : (n8 : Int) ≤ (ca : Int) := by omega
    go_upto_region 11 with (fail)
    have hTT : TnT w bl bc x y xs ys cc d p r us cp cr b6 b7 b8 aa a7 a8 na n7 n8 ca c7 c8 al Da D8 Y5 := ⟨hD, C6, C7, C8, hRa, hR8⟩
    clear hD C6 C7 C8 hRa hR8
    have d7 : decide ((n7 : Int) ≤ (n8 : Int)) = true := by simpa using d1
    by_cases hk : k < (ys.length : Int)
    · have dk : decide (k < (ys.length : Int)) = true := by simpa using hk
      refine wp_region_held_drew (S := fun V => TnT w bl bc x y xs ys cc d p r us cp cr b6 b7 b8 aa a7 a8 na n7 n8 ca c7 c8 al Da D8 V) (by kernel_rfl) (hTT.up (Below.refl _ _).drew) (fun hHeld => ?_)
      generalize Y5.drew = D at hHeld ⊢
      clear hTT
      refine wpAnyH_take (i := 0) (v := ?v12) rfl (by kernel_rfl) (by kernel_rfl) (by kernel_rfl) (fun _ _ _ h => h) (Or.inl ⟨by kernel_rfl, ?h12⟩) hHeld ?_
      case h12 => intro u hSw; (try dsimp only at hSw); go_simp; try with_reducible rfl
      try simp only [List.getElem_toArray]
      try simp only [List.getElem_cons_succ]
      try simp only [List.getElem_cons_zero]
      try simp only [Act.put]
      try simp only [List.setIfInBounds_toArray]
      try simp only [List.set]
      refine wpAnyH_take (i := 1) (v := ?v13) rfl (by kernel_rfl) (by kernel_rfl) (by kernel_rfl) (fun _ _ _ h => h) (Or.inl ⟨by kernel_rfl, ?h13⟩) hHeld ?_
      case h13 => intro u hSw; (try dsimp only at hSw); go_simp; try with_reducible rfl
      try simp only [List.getElem_toArray]
      try simp only [List.getElem_cons_succ]
      try simp only [List.getElem_cons_zero]
      try simp only [Act.put]
      try simp only [List.setIfInBounds_toArray]
      try simp only [List.set]
      refine wpAnyH_take (i := 2) (v := ?v14) rfl (by kernel_rfl) (by kernel_rfl) (by kernel_rfl) (fun _ _ _ h => h) (Or.inl ⟨by kernel_rfl, ?h14⟩) hHeld ?_
      case h14 => intro u hSw; have q0 := hSw.c7; clear hSw; go_simp; try with_reducible rfl
      try simp only [List.getElem_toArray]
      try simp only [List.getElem_cons_succ]
      try simp only [List.getElem_cons_zero]
      try simp only [Act.put]
      try simp only [List.setIfInBounds_toArray]
      try simp only [List.set]
      refine wpAnyH_take (i := 3) (v := ?v15) rfl (by kernel_rfl) (by kernel_rfl) (by kernel_rfl) (fun _ _ _ h => h) (Or.inl ⟨by kernel_rfl, ?h15⟩) hHeld ?_
      case h15 => intro u hSw; (try dsimp only at hSw); go_simp; try with_reducible rfl
      try simp only [List.getElem_toArray]
      try simp only [List.getElem_cons_succ]
      try simp only [List.getElem_cons_zero]
      try simp only [Act.put]
      try simp only [List.setIfInBounds_toArray]
      try simp only [List.set]
      refine wpAnyH_take (i := 4) (v := ?v16) rfl (by kernel_rfl) (by kernel_rfl) (by kernel_rfl) (fun _ _ _ h => h) (Or.inl ⟨by kernel_rfl, ?h16⟩) hHeld ?_
      case h16 => intro u hSw; (try dsimp only at hSw); go_simp; try with_reducible rfl
      try simp only [List.getElem_toArray]
      try simp only [List.getElem_cons_succ]
      try simp only [List.getElem_cons_zero]
      try simp only [Act.put]
      try simp only [List.setIfInBounds_toArray]
      try simp only [List.set]
      refine wpAnyH_take (i := 5) (v := ?v17) rfl (by kernel_rfl) (by kernel_rfl) (by kernel_rfl) (fun _ _ _ h => h) (Or.inl ⟨by kernel_rfl, ?h17⟩) hHeld ?_
      case h17 => intro u hSw; (try dsimp only at hSw); go_simp; try with_reducible rfl
      try simp only [List.getElem_toArray]
      try simp only [List.getElem_cons_succ]
      try simp only [List.getElem_cons_zero]
      try simp only [Act.put]
      try simp only [List.setIfInBounds_toArray]
      try simp only [List.set]
      refine wpAnyH_take (i := 6) (v := ?v18) rfl (by kernel_rfl) (by kernel_rfl) (by kernel_rfl) (fun _ _ _ h => h) (Or.inl ⟨by kernel_rfl, ?h18⟩) hHeld ?_
      case h18 => intro u hSw; (try dsimp only at hSw); go_simp; try with_reducible rfl
      try simp only [List.getElem_toArray]
      try simp only [List.getElem_cons_succ]
      try simp only [List.getElem_cons_zero]
      try simp only [Act.put]
      try simp only [List.setIfInBounds_toArray]
      try simp only [List.set]
      refine wpAnyH_take (i := 7) (v := ?v19) rfl (by kernel_rfl) (by kernel_rfl) (by kernel_rfl) (fun _ _ _ h => h) (Or.inl ⟨by kernel_rfl, ?h19⟩) hHeld ?_
      case h19 => intro u hSw; (try dsimp only at hSw); go_simp; try with_reducible rfl
      try simp only [List.getElem_toArray]
      try simp only [List.getElem_cons_succ]
      try simp only [List.getElem_cons_zero]
      try simp only [Act.put]
      try simp only [List.setIfInBounds_toArray]
      try simp only [List.set]
      refine wpAnyH_take (i := 8) (v := ?v20) rfl (by kernel_rfl) (by kernel_rfl) (by kernel_rfl) (fun _ _ _ h => h) (Or.inl ⟨by kernel_rfl, ?h20⟩) hHeld ?_
      case h20 => intro u hSw; have q0 := hSw.c6; clear hSw; go_simp; try with_reducible rfl
      try simp only [List.getElem_toArray]
      try simp only [List.getElem_cons_succ]
      try simp only [List.getElem_cons_zero]
      try simp only [Act.put]
      try simp only [List.setIfInBounds_toArray]
      try simp only [List.set]
      refine wpAnyH_take (i := 9) (v := ?v21) rfl (by kernel_rfl) (by kernel_rfl) (by kernel_rfl) (fun _ _ _ h => h) (Or.inl ⟨by kernel_rfl, ?h21⟩) hHeld ?_
      case h21 => intro u hSw; (try dsimp only at hSw); go_simp; try with_reducible rfl
      try simp only [List.getElem_toArray]
      try simp only [List.getElem_cons_succ]
      try simp only [List.getElem_cons_zero]
      try simp only [Act.put]
      try simp only [List.setIfInBounds_toArray]
      try simp only [List.set]
      refine wpAnyH_take (i := 10) (v := ?v22) rfl (by kernel_rfl) (by kernel_rfl) (by kernel_rfl) (fun _ _ _ h => h) (Or.inl ⟨by kernel_rfl, ?h22⟩) hHeld ?_
      case h22 => intro u hSw; (try dsimp only at hSw); go_simp; try with_reducible rfl
      try simp only [List.getElem_toArray]
      try simp only [List.getElem_cons_succ]
      try simp only [List.getElem_cons_zero]
      try simp only [Act.put]
      try simp only [List.setIfInBounds_toArray]
      try simp only [List.set]
      refine wpAnyH_take (i := 11) (v := ?v23) rfl (by kernel_rfl) (by kernel_rfl) (by kernel_rfl) (fun _ _ _ h => h) (Or.inl ⟨by kernel_rfl, ?h23⟩) hHeld ?_
      case h23 => intro u hSw; (try dsimp only at hSw); go_simp; try with_reducible rfl
      try simp only [List.getElem_toArray]
      try simp only [List.getElem_cons_succ]
      try simp only [List.getElem_cons_zero]
      try simp only [Act.put]
      try simp only [List.setIfInBounds_toArray]
      try simp only [List.set]
      refine wpAnyH_take (i := 12) (v := ?v24) rfl (by kernel_rfl) (by kernel_rfl) (by kernel_rfl) (fun _ _ _ h => h) (Or.inl ⟨by kernel_rfl, ?h24⟩) hHeld ?_
      case h24 => intro u hSw; (try dsimp only at hSw); go_simp; try with_reducible rfl
      try simp only [List.getElem_toArray]
      try simp only [List.getElem_cons_succ]
      try simp only [List.getElem_cons_zero]
      try simp only [Act.put]
      try simp only [List.setIfInBounds_toArray]
      try simp only [List.set]
      refine wpAnyH_take (i := 13) (v := ?v25) rfl (by kernel_rfl) (by kernel_rfl) (by kernel_rfl) (fun _ _ _ h => h) (Or.inl ⟨by kernel_rfl, ?h25⟩) hHeld ?_
      case h25 => intro u hSw; (try dsimp only at hSw); go_simp; try with_reducible rfl
      try simp only [List.getElem_toArray]
      try simp only [List.getElem_cons_succ]
      try simp only [List.getElem_cons_zero]
      try simp only [Act.put]
      try simp only [List.setIfInBounds_toArray]
      try simp only [List.set]
      refine wpAnyH_take (i := 15) (v := ?v26) rfl (by kernel_rfl) (by kernel_rfl) (by kernel_rfl) (fun _ _ _ h => h) (Or.inl ⟨by kernel_rfl, ?h26⟩) hHeld ?_
      case h26 => intro u hSw; (try dsimp only at hSw); go_simp; try with_reducible rfl
      try simp only [List.getElem_toArray]
      try simp only [List.getElem_cons_succ]
      try simp only [List.getElem_cons_zero]
      try simp only [Act.put]
      try simp only [List.setIfInBounds_toArray]
      try simp only [List.set]
      refine wpAnyH_take (i := 17) (v := ?v27) rfl (by kernel_rfl) (by kernel_rfl) (by kernel_rfl) (fun _ _ _ h => h) (Or.inl ⟨by kernel_rfl, ?h27⟩) hHeld ?_
      case h27 => intro u hSw; (try dsimp only at hSw); go_simp; try with_reducible rfl
      try simp only [List.getElem_toArray]
      try simp only [List.getElem_cons_succ]
      try simp only [List.getElem_cons_zero]
      try simp only [Act.put]
      try simp only [List.setIfInBounds_toArray]
      try simp only [List.set]
      refine wpAnyH_take (i := 14) (v := ?v28) rfl (by kernel_rfl) (by kernel_rfl) (by kernel_rfl) (fun _ _ _ h => h) (Or.inl ⟨by kernel_rfl, ?h28⟩) hHeld ?_
      case h28 => intro u hSw; have q0 := hSw.c8; clear hSw; go_simp; try with_reducible rfl
      try simp only [List.getElem_toArray]
      try simp only [List.getElem_cons_succ]
      try simp only [List.getElem_cons_zero]
      try simp only [Act.put]
      try simp only [List.setIfInBounds_toArray]
      try simp only [List.set]
      refine wpAnyH_take (i := 16) (v := ?v29) rfl (by kernel_rfl) (by kernel_rfl) (by kernel_rfl) (fun _ _ _ h => h) (Or.inl ⟨by kernel_rfl, ?h29⟩) hHeld ?_
      case h29 => intro u hSw; have q0 := hSw.c6; clear hSw; go_simp; try with_reducible rfl
      try simp only [List.getElem_toArray]
      try simp only [List.getElem_cons_succ]
      try simp only [List.getElem_cons_zero]
      try simp only [Act.put]
      try simp only [List.setIfInBounds_toArray]
      try simp only [List.set]
      refine wpAnyH_take (i := 18) (v := ?v30) rfl (by kernel_rfl) (by kernel_rfl) (by kernel_rfl) (fun _ _ _ h => h) (Or.inl ⟨by kernel_rfl, ?h30⟩) hHeld ?_
      case h30 => intro u hSw; (try dsimp only at hSw); go_simp; try with_reducible rfl
      try simp only [List.getElem_toArray]
      try simp only [List.getElem_cons_succ]
      try simp only [List.getElem_cons_zero]
      try simp only [Act.put]
      try simp only [List.setIfInBounds_toArray]
      try simp only [List.set]
      refine wpAnyH_ready (rs := [19]) (by kernel_rfl) (by simp) ?_
      refine AllReadyH.cons rfl (fun K hK => ?_) AllReadyH.nil
      go_simp
      go_wp2_with (go_at_call 24; refine (HSm.out _ hHeld.ru8 hHeld.ra).mono ?_; rintro e w7 ⟨rfl, hb⟩)
      refine hK.out _ _ (hHeld.up hb) (fun hHeld => ?_)
      clear hK K
      clear hb
      try simp only [Act.put]
      try simp only [List.setIfInBounds_toArray]
      try simp only [List.set]
      refine wpAnyH_take (i := 20) (v := ?v31) rfl (by kernel_rfl) (by kernel_rfl) (by kernel_rfl) (fun _ _ _ h => h) (Or.inl ⟨by kernel_rfl, ?h31⟩) hHeld ?_
      case h31 => intro u hSw; (try dsimp only at hSw); go_simp; try with_reducible rfl
      try simp only [List.getElem_toArray]
      try simp only [List.getElem_cons_succ]
      try simp only [List.getElem_cons_zero]
      try simp only [Act.put]
      try simp only [List.setIfInBounds_toArray]
      try simp only [List.set]
      refine wpAnyH_take (i := 21) (v := ?v32) rfl (by kernel_rfl) (by kernel_rfl) (by kernel_rfl) (fun _ _ _ h => h) (Or.inl ⟨by kernel_rfl, ?h32⟩) hHeld ?_
      case h32 => intro u hSw; (try dsimp only at hSw); go_simp; try with_reducible rfl
      try simp only [List.getElem_toArray]
      try simp only [List.getElem_cons_succ]
      try simp only [List.getElem_cons_zero]
      try simp only [Act.put]
      try simp only [List.setIfInBounds_toArray]
      try simp only [List.set]
      refine wpAnyH_take (i := 22) (v := ?v33) rfl (by kernel_rfl) (by kernel_rfl) (by kernel_rfl) (fun _ _ _ h => h) (Or.inl ⟨by kernel_rfl, ?h33⟩) hHeld ?_
      case h33 => intro u hSw; (try dsimp only at hSw); go_simp; try with_reducible rfl
      try simp only [List.getElem_toArray]
      try simp only [List.getElem_cons_succ]
      try simp only [List.getElem_cons_zero]
      try simp only [Act.put]
      try simp only [List.setIfInBounds_toArray]
      try simp only [List.set]
      refine wpAnyH_take (i := 23) (v := ?v34) rfl (by kernel_rfl) (by kernel_rfl) (by kernel_rfl) (fun _ _ _ h => h) (Or.inl ⟨by kernel_rfl, ?h34⟩) hHeld ?_
      case h34 => intro u hSw; (try dsimp only at hSw); go_simp; try with_reducible rfl
      try simp only [List.getElem_toArray]
      try simp only [List.getElem_cons_succ]
      try simp only [List.getElem_cons_zero]
      try simp only [Act.put]
      try simp only [List.setIfInBounds_toArray]
      try simp only [List.set]
      refine wpAnyH_take (i := 24) (v := ?v35) rfl (by kernel_rfl) (by kernel_rfl) (by kernel_rfl) (fun _ _ _ h => h) (Or.inl ⟨by kernel_rfl, ?h35⟩) hHeld ?_
      case h35 => intro u hSw; have q0 := hSw.s.c2; clear hSw; go_simp; try with_reducible rfl
      try simp only [List.getElem_toArray]
      try simp only [List.getElem_cons_succ]
      try simp only [List.getElem_cons_zero]
      try simp only [Act.put]
      try simp only [List.setIfInBounds_toArray]
      try simp only [List.set]
      refine wpAnyH_take (i := 25) (v := ?v36) rfl (by kernel_rfl) (by kernel_rfl) (by kernel_rfl) (fun _ _ _ h => h) (Or.inl ⟨by kernel_rfl, ?h36⟩) hHeld ?_
      case h36 => intro u hSw; (try dsimp only at hSw); go_simp; try with_reducible rfl
      try simp only [List.getElem_toArray]
      try simp only [List.getElem_cons_succ]
      try simp only [List.getElem_cons_zero]
      try simp only [Act.put]
      try simp only [List.setIfInBounds_toArray]
      try simp only [List.set]
      refine wpAnyH_take (i := 26) (v := ?v37) rfl (by kernel_rfl) (by kernel_rfl) (by kernel_rfl) (fun _ _ _ h => h) (Or.inl ⟨by kernel_rfl, ?h37⟩) hHeld ?_
      case h37 => intro u hSw; (try dsimp only at hSw); go_simp; try with_reducible rfl
      try simp only [List.getElem_toArray]
      try simp only [List.getElem_cons_succ]
      try simp only [List.getElem_cons_zero]
      try simp only [Act.put]
      try simp only [List.setIfInBounds_toArray]
      try simp only [List.set]
      refine wpAnyH_take (i := 27) (v := ?v38) rfl (by kernel_rfl) (by kernel_rfl) (by kernel_rfl) (fun _ _ _ h => h) (Or.inl ⟨by kernel_rfl, ?h38⟩) hHeld ?_
      case h38 => intro u hSw; (try dsimp only at hSw); go_simp; try with_reducible rfl
      try simp only [List.getElem_toArray]
      try simp only [List.getElem_cons_succ]
      try simp only [List.getElem_cons_zero]
      try simp only [Act.put]
      try simp only [List.setIfInBounds_toArray]
      try simp only [List.set]
      refine wpAnyH_take (i := 28) (v := ?v39) rfl (by kernel_rfl) (by kernel_rfl) (by kernel_rfl) (fun _ _ _ h => h) (Or.inl ⟨by kernel_rfl, ?h39⟩) hHeld ?_
      case h39 => intro u hSw; (try dsimp only at hSw); go_simp; try with_reducible rfl
      try simp only [List.getElem_toArray]
      try simp only [List.getElem_cons_succ]
      try simp only [List.getElem_cons_zero]
      try simp only [Act.put]
      try simp only [List.setIfInBounds_toArray]
      try simp only [List.set]
      refine wpAnyH_take (i := 29) (v := ?v40) rfl (by kernel_rfl) (by kernel_rfl) (by kernel_rfl) (fun _ _ _ h => h) (Or.inl ⟨by kernel_rfl, ?h40⟩) hHeld ?_
      case h40 => intro u hSw; (try dsimp only at hSw); go_simp; try with_reducible rfl
      try simp only [List.getElem_toArray]
      try simp only [List.getElem_cons_succ]
      try simp only [List.getElem_cons_zero]
      try simp only [Act.put]
      try simp only [List.setIfInBounds_toArray]
      try simp only [List.set]
      refine wpAnyH_take (i := 30) (v := ?v41) rfl (by kernel_rfl) (by kernel_rfl) (by kernel_rfl) (fun _ _ _ h => h) (Or.inl ⟨by kernel_rfl, ?h41⟩) hHeld ?_
      case h41 => intro u hSw; have q0 := hSw.s.c1; have q1 := hSw.s.c2; clear hSw; go_simp; try with_reducible rfl
      try simp only [List.getElem_toArray]
      try simp only [List.getElem_cons_succ]
      try simp only [List.getElem_cons_zero]
      try simp only [Act.put]
      try simp only [List.setIfInBounds_toArray]
      try simp only [List.set]
      refine wpAnyH_ready (rs := [31]) (by kernel_rfl) (by simp) ?_
      refine AllReadyH.cons rfl (fun K hK => ?_) AllReadyH.nil
      go_simp
      go_wp2_with (go_at_call 28; refine (HLf.out _ hHeld.s.ru).mono ?_; rintro e w8 ⟨rfl, hb⟩)
      refine hK.out _ _ (hHeld.up hb) (fun hHeld => ?_)
      clear hK K
      clear hb
      try simp only [Act.put]
      try simp only [List.setIfInBounds_toArray]
      try simp only [List.set]
      refine wpAnyH_take (i := 32) (v := ?v42) rfl (by kernel_rfl) (by kernel_rfl) (by kernel_rfl) (fun _ _ _ h => h) (Or.inl ⟨by kernel_rfl, ?h42⟩) hHeld ?_
      case h42 => intro u hSw; (try dsimp only at hSw); go_simp; try with_reducible rfl
      try simp only [List.getElem_toArray]
      try simp only [List.getElem_cons_succ]
      try simp only [List.getElem_cons_zero]
      try simp only [Act.put]
      try simp only [List.setIfInBounds_toArray]
      try simp only [List.set]
      refine wpAnyH_take (i := 33) (v := ?v43) rfl (by kernel_rfl) (by kernel_rfl) (by kernel_rfl) (fun _ _ _ h => h) (Or.inl ⟨by kernel_rfl, ?h43⟩) hHeld ?_
      case h43 => intro u hSw; (try dsimp only at hSw); go_simp; try with_reducible rfl
      try simp only [List.getElem_toArray]
      try simp only [List.getElem_cons_succ]
      try simp only [List.getElem_cons_zero]
      try simp only [Act.put]
      try simp only [List.setIfInBounds_toArray]
      try simp only [List.set]
      refine wpAnyH_take (i := 34) (v := ?v44) rfl (by kernel_rfl) (by kernel_rfl) (by kernel_rfl) (fun _ _ _ h => h) (Or.inl ⟨by kernel_rfl, ?h44⟩) hHeld ?_
      case h44 => intro u hSw; (try dsimp only at hSw); go_simp; try with_reducible rfl
      try simp only [List.getElem_toArray]
      try simp only [List.getElem_cons_succ]
      try simp only [List.getElem_cons_zero]
      try simp only [Act.put]
      try simp only [List.setIfInBounds_toArray]
      try simp only [List.set]
      refine wpAnyH_take (i := 35) (v := ?v45) rfl (by kernel_rfl) (by kernel_rfl) (by kernel_rfl) (fun _ _ _ h => h) (Or.inl ⟨by kernel_rfl, ?h45⟩) hHeld ?_
      case h45 => intro u hSw; (try dsimp only at hSw); go_simp; try with_reducible rfl
      try simp only [List.getElem_toArray]
      try simp only [List.getElem_cons_succ]
      try simp only [List.getElem_cons_zero]
      try simp only [Act.put]
      try simp only [List.setIfInBounds_toArray]
      try simp only [List.set]
      refine wpAnyH_take (i := 36) (v := ?v46) rfl (by kernel_rfl) (by kernel_rfl) (by kernel_rfl) (fun _ _ _ h => h) (Or.inl ⟨by kernel_rfl, ?h46⟩) hHeld ?_
      case h46 => intro u hSw; (try dsimp only at hSw); go_simp; try with_reducible rfl
      try simp only [List.getElem_toArray]
      try simp only [List.getElem_cons_succ]
      try simp only [List.getElem_cons_zero]
      try simp only [Act.put]
      try simp only [List.setIfInBounds_toArray]
      try simp only [List.set]
      refine wpAnyH_take (i := 37) (v := ?v47) rfl (by kernel_rfl) (by kernel_rfl) (by kernel_rfl) (fun _ _ _ h => h) (Or.inl ⟨by kernel_rfl, ?h47⟩) hHeld ?_
      case h47 => intro u hSw; obtain ⟨q0, q1⟩ := hSw.s.l; clear hSw; go_simp; try with_reducible rfl
      try simp only [List.getElem_toArray]
      try simp only [List.getElem_cons_succ]
      try simp only [List.getElem_cons_zero]
      try simp only [Act.put]
      try simp only [List.setIfInBounds_toArray]
      try simp only [List.set]
      refine wpAnyH_take (i := 38) (v := ?v48) rfl (by kernel_rfl) (by kernel_rfl) (by kernel_rfl) (fun _ _ _ h => h) (Or.inl ⟨by kernel_rfl, ?h48⟩) hHeld ?_
      case h48 => intro u hSw; (try dsimp only at hSw); go_simp; try with_reducible rfl
      try simp only [List.getElem_toArray]
      try simp only [List.getElem_cons_succ]
      try simp only [List.getElem_cons_zero]
      try simp only [Act.put]
      try simp only [List.setIfInBounds_toArray]
      try simp only [List.set]
      refine wpAnyH_take (i := 39) (v := ?v49) rfl (by kernel_rfl) (by kernel_rfl) (by kernel_rfl) (fun _ _ _ h => h) (Or.inl ⟨by kernel_rfl, ?h49⟩) hHeld ?_
      case h49 => intro u hSw; (try dsimp only at hSw); go_simp; try with_reducible rfl
      try simp only [List.getElem_toArray]
      try simp only [List.getElem_cons_succ]
      try simp only [List.getElem_cons_zero]
      try simp only [Act.put]
      try simp only [List.setIfInBounds_toArray]
      try simp only [List.set]
      refine wpAnyH_take (i := 40) (v := ?v50) rfl (by kernel_rfl) (by kernel_rfl) (by kernel_rfl) (fun _ _ _ h => h) (Or.inl ⟨by kernel_rfl, ?h50⟩) hHeld ?_
      case h50 => intro u hSw; (try dsimp only at hSw); go_simp; try with_reducible rfl
      try simp only [List.getElem_toArray]
      try simp only [List.getElem_cons_succ]
      try simp only [List.getElem_cons_zero]
      try simp only [Act.put]
      try simp only [List.setIfInBounds_toArray]
      try simp only [List.set]
      refine wpAnyH_take (i := 41) (v := undef) rfl (by kernel_rfl) (by kernel_rfl) (by kernel_rfl) (fun _ _ _ h => h) (Or.inr ⟨by kernel_rfl, rfl⟩) hHeld ?_
      try simp only [List.getElem_toArray]
      try simp only [List.getElem_cons_succ]
      try simp only [List.getElem_cons_zero]
      try simp only [Act.put]
      try simp only [List.setIfInBounds_toArray]
      try simp only [List.set]
      refine wpAnyH_take (i := 42) (v := undef) rfl (by kernel_rfl) (by kernel_rfl) (by kernel_rfl) (fun _ _ _ h => h) (Or.inr ⟨by kernel_rfl, rfl⟩) hHeld ?_
      try simp only [List.getElem_toArray]
      try simp only [List.getElem_cons_succ]
      try simp only [List.getElem_cons_zero]
      try simp only [Act.put]
      try simp only [List.setIfInBounds_toArray]
      try simp only [List.set]
      refine wpAnyH_take (i := 43) (v := undef) rfl (by kernel_rfl) (by kernel_rfl) (by kernel_rfl) (fun _ _ _ h => h) (Or.inr ⟨by kernel_rfl, rfl⟩) hHeld ?_
      try simp only [List.getElem_toArray]
      try simp only [List.getElem_cons_succ]
      try simp only [List.getElem_cons_zero]
      try simp only [Act.put]
      try simp only [List.setIfInBounds_toArray]
      try simp only [List.set]
      refine wpAnyH_take (i := 44) (v := undef) rfl (by kernel_rfl) (by kernel_rfl) (by kernel_rfl) (fun _ _ _ h => h) (Or.inr ⟨by kernel_rfl, rfl⟩) hHeld ?_
      try simp only [List.getElem_toArray]
      try simp only [List.getElem_cons_succ]
      try simp only [List.getElem_cons_zero]
      try simp only [Act.put]
      try simp only [List.setIfInBounds_toArray]
      try simp only [List.set]
      refine wpAnyH_take (i := 45) (v := undef) rfl (by kernel_rfl) (by kernel_rfl) (by kernel_rfl) (fun _ _ _ h => h) (Or.inr ⟨by kernel_rfl, rfl⟩) hHeld ?_
      try simp only [List.getElem_toArray]
      try simp only [List.getElem_cons_succ]
      try simp only [List.getElem_cons_zero]
      try simp only [Act.put]
      try simp only [List.setIfInBounds_toArray]
      try simp only [List.set]
      refine wpAnyH_take (i := 46) (v := ?v51) rfl (by kernel_rfl) (by kernel_rfl) (by kernel_rfl) (fun _ _ _ h => h) (Or.inl ⟨by kernel_rfl, ?h51⟩) hHeld ?_
      case h51 => intro u hSw; (try dsimp only at hSw); go_simp; try with_reducible rfl
      try simp only [List.getElem_toArray]
      try simp only [List.getElem_cons_succ]
      try simp only [List.getElem_cons_zero]
      try simp only [Act.put]
      try simp only [List.setIfInBounds_toArray]
      try simp only [List.set]
      refine wpAnyH_take (i := 47) (v := ?v52) rfl (by kernel_rfl) (by kernel_rfl) (by kernel_rfl) (fun _ _ _ h => h) (Or.inl ⟨by kernel_rfl, ?h52⟩) hHeld ?_
      case h52 => intro u hSw; (try dsimp only at hSw); go_simp; try with_reducible rfl
      try simp only [List.getElem_toArray]
      try simp only [List.getElem_cons_succ]
      try simp only [List.getElem_cons_zero]
      try simp only [Act.put]
      try simp only [List.setIfInBounds_toArray]
      try simp only [List.set]
      refine wpAnyH_take (i := 48) (v := ?v53) rfl (by kernel_rfl) (by kernel_rfl) (by kernel_rfl) (fun _ _ _ h => h) (Or.inl ⟨by kernel_rfl, ?h53⟩) hHeld ?_
      case h53 => intro u hSw; (try dsimp only at hSw); go_simp; try with_reducible rfl
      try simp only [List.getElem_toArray]
      try simp only [List.getElem_cons_succ]
      try simp only [List.getElem_cons_zero]
      try simp only [Act.put]
      try simp only [List.setIfInBounds_toArray]
      try simp only [List.set]
      refine wpAnyH_take (i := 49) (v := ?v54) rfl (by kernel_rfl) (by kernel_rfl) (by kernel_rfl) (fun _ _ _ h => h) (Or.inl ⟨by kernel_rfl, ?h54⟩) hHeld ?_
      case h54 => intro u hSw; (try dsimp only at hSw); go_simp; try with_reducible rfl
      try simp only [List.getElem_toArray]
      try simp only [List.getElem_cons_succ]
      try simp only [List.getElem_cons_zero]
      try simp only [Act.put]
      try simp only [List.setIfInBounds_toArray]
      try simp only [List.set]
      refine wpAnyH_take (i := 50) (v := ?v55) rfl (by kernel_rfl) (by kernel_rfl) (by kernel_rfl) (fun _ _ _ h => h) (Or.inl ⟨by kernel_rfl, ?h55⟩) hHeld ?_
      case h55 => intro u hSw; obtain ⟨q0, q1⟩ := hSw.s.l; clear hSw; go_simp; try with_reducible rfl
      try simp only [List.getElem_toArray]
      try simp only [List.getElem_cons_succ]
      try simp only [List.getElem_cons_zero]
      try simp only [Act.put]
      try simp only [List.setIfInBounds_toArray]
      try simp only [List.set]
      refine wpAnyH_take (i := 51) (v := ?v56) rfl (by kernel_rfl) (by kernel_rfl) (by kernel_rfl) (fun _ _ _ h => h) (Or.inl ⟨by kernel_rfl, ?h56⟩) hHeld ?_
      case h56 => intro u hSw; (try dsimp only at hSw); go_simp; try with_reducible rfl
      try simp only [List.getElem_toArray]
      try simp only [List.getElem_cons_succ]
      try simp only [List.getElem_cons_zero]
      try simp only [Act.put]
      try simp only [List.setIfInBounds_toArray]
      try simp only [List.set]
      refine wpAnyH_ready (rs := [52]) (by kernel_rfl) (by simp) ?_
      refine AllReadyH.cons rfl (fun K hK => ?_) AllReadyH.nil
      go_simp
      go_wp2_with (go_at_call 27; refine (HP.out _ hHeld.s.rx hHeld.s.ry).mono ?_; intro e w9 hp; obtain ⟨p9, c9, r9, d9, m9, rfl, hc9, _, hc92, _, hb, hLi9⟩ := hp; have h9r := hLi9.s.reads; clear hLi9)
      refine hK.out _ _ (hHeld.up hb) (fun hHeld => ?_)
      clear hK K
      clear hb
      try simp only [Act.put]
      try simp only [List.setIfInBounds_toArray]
      try simp only [List.set]
      refine wpAnyH_take (i := 53) (v := ?v57) rfl (by kernel_rfl) (by kernel_rfl) (by kernel_rfl) (fun _ _ _ h => h) (Or.inl ⟨by kernel_rfl, ?h57⟩) hHeld ?_
      case h57 => intro u hSw; (try dsimp only at hSw); go_simp; try with_reducible rfl
      try simp only [List.getElem_toArray]
      try simp only [List.getElem_cons_succ]
      try simp only [List.getElem_cons_zero]
      try simp only [Act.put]
      try simp only [List.setIfInBounds_toArray]
      try simp only [List.set]
      refine wpAnyH_take (i := 54) (v := ?v58) rfl (by kernel_rfl) (by kernel_rfl) (by kernel_rfl) (fun _ _ _ h => h) (Or.inl ⟨by kernel_rfl, ?h58⟩) hHeld ?_
      case h58 => intro u hSw; (try dsimp only at hSw); go_simp; try with_reducible rfl
      try simp only [List.getElem_toArray]
      try simp only [List.getElem_cons_succ]
      try simp only [List.getElem_cons_zero]
      try simp only [Act.put]
      try simp only [List.setIfInBounds_toArray]
      try simp only [List.set]
      refine wpAnyH_ready (rs := [55]) (by kernel_rfl) (by simp) ?_
      refine AllReadyH.cons rfl (fun K hK => ?_) AllReadyH.nil
      go_simp
      go_wp2_with (go_at_call 29; refine (HRs.out _ _ _ hc9 hc92 h9r).mono ?_; intro e wa hp; obtain ⟨aw, cw, Dw, he, hb, _, _, _⟩ := hp; rw [HN8.out] at he; subst he)
      refine hK.out _ _ (hHeld.up hb) (fun hHeld => ?_)
      clear hK K
      clear hb
      try simp only [Act.put]
      try simp only [List.setIfInBounds_toArray]
      try simp only [List.set]
      refine wpAnyH_take (i := 56) (v := ?v59) rfl (by kernel_rfl) (by kernel_rfl) (by kernel_rfl) (fun _ _ _ h => h) (Or.inl ⟨by kernel_rfl, ?h59⟩) hHeld ?_
      case h59 => intro u hSw; (try dsimp only at hSw); go_simp; try with_reducible rfl
      try simp only [List.getElem_toArray]
      try simp only [List.getElem_cons_succ]
      try simp only [List.getElem_cons_zero]
      try simp only [Act.put]
      try simp only [List.setIfInBounds_toArray]
      try simp only [List.set]
      refine wpAnyH_take (i := 57) (v := ?v60) rfl (by kernel_rfl) (by kernel_rfl) (by kernel_rfl) (fun _ _ _ h => h) (Or.inl ⟨by kernel_rfl, ?h60⟩) hHeld ?_
      case h60 => intro u hSw; (try dsimp only at hSw); go_simp; try with_reducible rfl
      try simp only [List.getElem_toArray]
      try simp only [List.getElem_cons_succ]
      try simp only [List.getElem_cons_zero]
      try simp only [Act.put]
      try simp only [List.setIfInBounds_toArray]
      try simp only [List.set]
      refine wpAnyH_take (i := 58) (v := ?v61) rfl (by kernel_rfl) (by kernel_rfl) (by kernel_rfl) (fun _ _ _ h => h) (Or.inl ⟨by kernel_rfl, ?h61⟩) hHeld ?_
      case h61 => intro u hSw; (try dsimp only at hSw); go_simp; try with_reducible rfl
      try simp only [List.getElem_toArray]
      try simp only [List.getElem_cons_succ]
      try simp only [List.getElem_cons_zero]
      try simp only [Act.put]
      try simp only [List.setIfInBounds_toArray]
      try simp only [List.set]
      refine wpAnyH_take (i := 59) (v := ?v62) rfl (by kernel_rfl) (by kernel_rfl) (by kernel_rfl) (fun _ _ _ h => h) (Or.inl ⟨by kernel_rfl, ?h62⟩) hHeld ?_
      case h62 => intro u hSw; (try dsimp only at hSw); go_simp; try with_reducible rfl
      try simp only [List.getElem_toArray]
      try simp only [List.getElem_cons_succ]
      try simp only [List.getElem_cons_zero]
      try simp only [Act.put]
      try simp only [List.setIfInBounds_toArray]
      try simp only [List.set]
      refine wpAnyH_take (i := 60) (v := ?v63) rfl (by kernel_rfl) (by kernel_rfl) (by kernel_rfl) (fun _ _ _ h => h) (Or.inl ⟨by kernel_rfl, ?h63⟩) hHeld ?_
      case h63 => intro u hSw; (try dsimp only at hSw); go_simp; try with_reducible rfl
      try simp only [List.getElem_toArray]
      try simp only [List.getElem_cons_succ]
      try simp only [List.getElem_cons_zero]
      try simp only [Act.put]
      try simp only [List.setIfInBounds_toArray]
      try simp only [List.set]
      refine wpAnyH_done (by kernel_rfl) ?_ _
      have g := hHeld.s.g
      clear hHeld
      go_wp2_with fail
      go_ret
      exact ⟨rfl, g⟩
    · obtain rfl : n8 = na := t5 (by omega)
      have dk : decide (k < (ys.length : Int)) = false := by simpa using hk
      refine wp_region_held_drew (S := fun V => TnT w bl bc x y xs ys cc d p r us cp cr b6 b7 b8 aa a7 a8 n8 n7 n8 ca c7 c8 al Da D8 V) (by kernel_rfl) (hTT.up (Below.refl _ _).drew) (fun hHeld => ?_)
      generalize Y5.drew = D at hHeld ⊢
      clear hTT
      refine wpAnyH_take (i := 0) (v := ?v64) rfl (by kernel_rfl) (by kernel_rfl) (by kernel_rfl) (fun _ _ _ h => h) (Or.inl ⟨by kernel_rfl, ?h64⟩) hHeld ?_
      case h64 => intro u hSw; (try dsimp only at hSw); go_simp; try with_reducible rfl
      try simp only [List.getElem_toArray]
      try simp only [List.getElem_cons_succ]
      try simp only [List.getElem_cons_zero]
      try simp only [Act.put]
      try simp only [List.setIfInBounds_toArray]
      try simp only [List.set]
      refine wpAnyH_take (i := 1) (v := ?v65) rfl (by kernel_rfl) (by kernel_rfl) (by kernel_rfl) (fun _ _ _ h => h) (Or.inl ⟨by kernel_rfl, ?h65⟩) hHeld ?_
      case h65 => intro u hSw; (try dsimp only at hSw); go_simp; try with_reducible rfl
      try simp only [List.getElem_toArray]
      try simp only [List.getElem_cons_succ]
      try simp only [List.getElem_cons_zero]
      try simp only [Act.put]
      try simp only [List.setIfInBounds_toArray]
      try simp only [List.set]
      refine wpAnyH_take (i := 2) (v := ?v66) rfl (by kernel_rfl) (by kernel_rfl) (by kernel_rfl) (fun _ _ _ h => h) (Or.inl ⟨by kernel_rfl, ?h66⟩) hHeld ?_
      case h66 => intro u hSw; have q0 := hSw.c7; clear hSw; go_simp; try with_reducible rfl
      try simp only [List.getElem_toArray]
      try simp only [List.getElem_cons_succ]
      try simp only [List.getElem_cons_zero]
      try simp only [Act.put]
      try simp only [List.setIfInBounds_toArray]
      try simp only [List.set]
      refine wpAnyH_take (i := 3) (v := ?v67) rfl (by kernel_rfl) (by kernel_rfl) (by kernel_rfl) (fun _ _ _ h => h) (Or.inl ⟨by kernel_rfl, ?h67⟩) hHeld ?_
      case h67 => intro u hSw; (try dsimp only at hSw); go_simp; try with_reducible rfl
      try simp only [List.getElem_toArray]
      try simp only [List.getElem_cons_succ]
      try simp only [List.getElem_cons_zero]
      try simp only [Act.put]
      try simp only [List.setIfInBounds_toArray]
      try simp only [List.set]
      refine wpAnyH_take (i := 4) (v := ?v68) rfl (by kernel_rfl) (by kernel_rfl) (by kernel_rfl) (fun _ _ _ h => h) (Or.inl ⟨by kernel_rfl, ?h68⟩) hHeld ?_
      case h68 => intro u hSw; (try dsimp only at hSw); go_simp; try with_reducible rfl
      try simp only [List.getElem_toArray]
      try simp only [List.getElem_cons_succ]
      try simp only [List.getElem_cons_zero]
      try simp only [Act.put]
      try simp only [List.setIfInBounds_toArray]
      try simp only [List.set]
      refine wpAnyH_take (i := 5) (v := ?v69) rfl (by kernel_rfl) (by kernel_rfl) (by kernel_rfl) (fun _ _ _ h => h) (Or.inl ⟨by kernel_rfl, ?h69⟩) hHeld ?_
      case h69 => intro u hSw; (try dsimp only at hSw); go_simp; try with_reducible rfl
      try simp only [List.getElem_toArray]
      try simp only [List.getElem_cons_succ]
      try simp only [List.getElem_cons_zero]
      try simp only [Act.put]
      try simp only [List.setIfInBounds_toArray]
      try simp only [List.set]
      refine wpAnyH_take (i := 6) (v := ?v70) rfl (by kernel_rfl) (by kernel_rfl) (by kernel_rfl) (fun _ _ _ h => h) (Or.inl ⟨by kernel_rfl, ?h70⟩) hHeld ?_
      case h70 => intro u hSw; (try dsimp only at hSw); go_simp; try with_reducible rfl
      try simp only [List.getElem_toArray]
      try simp only [List.getElem_cons_succ]
      try simp only [List.getElem_cons_zero]
      try simp only [Act.put]
      try simp only [List.setIfInBounds_toArray]
      try simp only [List.set]
      refine wpAnyH_take (i := 7) (v := ?v71) rfl (by kernel_rfl) (by kernel_rfl) (by kernel_rfl) (fun _ _ _ h => h) (Or.inl ⟨by kernel_rfl, ?h71⟩) hHeld ?_
      case h71 => intro u hSw; (try dsimp only at hSw); go_simp; try with_reducible rfl
      try simp only [List.getElem_toArray]
      try simp only [List.getElem_cons_succ]
      try simp only [List.getElem_cons_zero]
      try simp only [Act.put]
      try simp only [List.setIfInBounds_toArray]
      try simp only [List.set]
      refine wpAnyH_take (i := 8) (v := ?v72) rfl (by kernel_rfl) (by kernel_rfl) (by kernel_rfl) (fun _ _ _ h => h) (Or.inl ⟨by kernel_rfl, ?h72⟩) hHeld ?_
      case h72 => intro u hSw; have q0 := hSw.c6; clear hSw; go_simp; try with_reducible rfl
      try simp only [List.getElem_toArray]
      try simp only [List.getElem_cons_succ]
      try simp only [List.getElem_cons_zero]
      try simp only [Act.put]
      try simp only [List.setIfInBounds_toArray]
      try simp only [List.set]
      refine wpAnyH_take (i := 9) (v := ?v73) rfl (by kernel_rfl) (by kernel_rfl) (by kernel_rfl) (fun _ _ _ h => h) (Or.inl ⟨by kernel_rfl, ?h73⟩) hHeld ?_
      case h73 => intro u hSw; (try dsimp only at hSw); go_simp; try with_reducible rfl
      try simp only [List.getElem_toArray]
      try simp only [List.getElem_cons_succ]
      try simp only [List.getElem_cons_zero]
      try simp only [Act.put]
      try simp only [List.setIfInBounds_toArray]
      try simp only [List.set]
      refine wpAnyH_take (i := 10) (v := ?v74) rfl (by kernel_rfl) (by kernel_rfl) (by kernel_rfl) (fun _ _ _ h => h) (Or.inl ⟨by kernel_rfl, ?h74⟩) hHeld ?_
      case h74 => intro u hSw; (try dsimp only at hSw); go_simp; try with_reducible rfl
      try simp only [List.getElem_toArray]
      try simp only [List.getElem_cons_succ]
      try simp only [List.getElem_cons_zero]
      try simp only [Act.put]
      try simp only [List.setIfInBounds_toArray]
      try simp only [List.set]
      refine wpAnyH_take (i := 11) (v := ?v75) rfl (by kernel_rfl) (by kernel_rfl) (by kernel_rfl) (fun _ _ _ h => h) (Or.inl ⟨by kernel_rfl, ?h75⟩) hHeld ?_
      case h75 => intro u hSw; (try dsimp only at hSw); go_simp; try with_reducible rfl
      try simp only [List.getElem_toArray]
      try simp only [List.getElem_cons_succ]
      try simp only [List.getElem_cons_zero]
      try simp only [Act.put]
      try simp only [List.setIfInBounds_toArray]
      try simp only [List.set]
      refine wpAnyH_take (i := 12) (v := ?v76) rfl (by kernel_rfl) (by kernel_rfl) (by kernel_rfl) (fun _ _ _ h => h) (Or.inl ⟨by kernel_rfl, ?h76⟩) hHeld ?_
      case h76 => intro u hSw; (try dsimp only at hSw); go_simp; try with_reducible rfl
      try simp only [List.getElem_toArray]
      try simp only [List.getElem_cons_succ]
      try simp only [List.getElem_cons_zero]
      try simp only [Act.put]
      try simp only [List.setIfInBounds_toArray]
      try simp only [List.set]
      refine wpAnyH_take (i := 13) (v := ?v77) rfl (by kernel_rfl) (by kernel_rfl) (by kernel_rfl) (fun _ _ _ h => h) (Or.inl ⟨by kernel_rfl, ?h77⟩) hHeld ?_
      case h77 => intro u hSw; (try dsimp only at hSw); go_simp; try with_reducible rfl
      try simp only [List.getElem_toArray]
      try simp only [List.getElem_cons_succ]
      try simp only [List.getElem_cons_zero]
      try simp only [Act.put]
      try simp only [List.setIfInBounds_toArray]
      try simp only [List.set]
      refine wpAnyH_take (i := 15) (v := ?v78) rfl (by kernel_rfl) (by kernel_rfl) (by kernel_rfl) (fun _ _ _ h => h) (Or.inl ⟨by kernel_rfl, ?h78⟩) hHeld ?_
      case h78 => intro u hSw; (try dsimp only at hSw); go_simp; try with_reducible rfl
      try simp only [List.getElem_toArray]
      try simp only [List.getElem_cons_succ]
      try simp only [List.getElem_cons_zero]
      try simp only [Act.put]
      try simp only [List.setIfInBounds_toArray]
      try simp only [List.set]
      refine wpAnyH_take (i := 17) (v := ?v79) rfl (by kernel_rfl) (by kernel_rfl) (by kernel_rfl) (fun _ _ _ h => h) (Or.inl ⟨by kernel_rfl, ?h79⟩) hHeld ?_
      case h79 => intro u hSw; (try dsimp only at hSw); go_simp; try with_reducible rfl
      try simp only [List.getElem_toArray]
      try simp only [List.getElem_cons_succ]
      try simp only [List.getElem_cons_zero]
      try simp only [Act.put]
      try simp only [List.setIfInBounds_toArray]
      try simp only [List.set]
      refine wpAnyH_take (i := 14) (v := ?v80) rfl (by kernel_rfl) (by kernel_rfl) (by kernel_rfl) (fun _ _ _ h => h) (Or.inl ⟨by kernel_rfl, ?h80⟩) hHeld ?_
      case h80 => intro u hSw; have q0 := hSw.c8; clear hSw; go_simp; try with_reducible rfl
      try simp only [List.getElem_toArray]
      try simp only [List.getElem_cons_succ]
      try simp only [List.getElem_cons_zero]
      try simp only [Act.put]
      try simp only [List.setIfInBounds_toArray]
      try simp only [List.set]
      refine wpAnyH_take (i := 16) (v := ?v81) rfl (by kernel_rfl) (by kernel_rfl) (by kernel_rfl) (fun _ _ _ h => h) (Or.inl ⟨by kernel_rfl, ?h81⟩) hHeld ?_
      case h81 => intro u hSw; have q0 := hSw.c6; clear hSw; go_simp; try with_reducible rfl
      try simp only [List.getElem_toArray]
      try simp only [List.getElem_cons_succ]
      try simp only [List.getElem_cons_zero]
      try simp only [Act.put]
      try simp only [List.setIfInBounds_toArray]
      try simp only [List.set]
      refine wpAnyH_take (i := 18) (v := ?v82) rfl (by kernel_rfl) (by kernel_rfl) (by kernel_rfl) (fun _ _ _ h => h) (Or.inl ⟨by kernel_rfl, ?h82⟩) hHeld ?_
      case h82 => intro u hSw; (try dsimp only at hSw); go_simp; try with_reducible rfl
      try simp only [List.getElem_toArray]
      try simp only [List.getElem_cons_succ]
      try simp only [List.getElem_cons_zero]
      try simp only [Act.put]
      try simp only [List.setIfInBounds_toArray]
      try simp only [List.set]
      refine wpAnyH_ready (rs := [19]) (by kernel_rfl) (by simp) ?_
      refine AllReadyH.cons rfl (fun K hK => ?_) AllReadyH.nil
      go_simp
      go_wp2_with (go_at_call 24; refine (HSm.out _ hHeld.ru8 hHeld.ra).mono ?_; rintro e w7 ⟨rfl, hb⟩)
      refine hK.out _ _ (hHeld.up hb) (fun hHeld => ?_)
      clear hK K
      clear hb
      try simp only [Act.put]
      try simp only [List.setIfInBounds_toArray]
      try simp only [List.set]
      refine wpAnyH_take (i := 20) (v := ?v83) rfl (by kernel_rfl) (by kernel_rfl) (by kernel_rfl) (fun _ _ _ h => h) (Or.inl ⟨by kernel_rfl, ?h83⟩) hHeld ?_
      case h83 => intro u hSw; (try dsimp only at hSw); go_simp; try with_reducible rfl
      try simp only [List.getElem_toArray]
      try simp only [List.getElem_cons_succ]
      try simp only [List.getElem_cons_zero]
      try simp only [Act.put]
      try simp only [List.setIfInBounds_toArray]
      try simp only [List.set]
      refine wpAnyH_take (i := 21) (v := ?v84) rfl (by kernel_rfl) (by kernel_rfl) (by kernel_rfl) (fun _ _ _ h => h) (Or.inl ⟨by kernel_rfl, ?h84⟩) hHeld ?_
      case h84 => intro u hSw; (try dsimp only at hSw); go_simp; try with_reducible rfl
      try simp only [List.getElem_toArray]
      try simp only [List.getElem_cons_succ]
      try simp only [List.getElem_cons_zero]
      try simp only [Act.put]
      try simp only [List.setIfInBounds_toArray]
      try simp only [List.set]
      refine wpAnyH_take (i := 22) (v := ?v85) rfl (by kernel_rfl) (by kernel_rfl) (by kernel_rfl) (fun _ _ _ h => h) (Or.inl ⟨by kernel_rfl, ?h85⟩) hHeld ?_
      case h85 => intro u hSw; (try dsimp only at hSw); go_simp; try with_reducible rfl
      try simp only [List.getElem_toArray]
      try simp only [List.getElem_cons_succ]
      try simp only [List.getElem_cons_zero]
      try simp only [Act.put]
      try simp only [List.setIfInBounds_toArray]
      try simp only [List.set]
      refine wpAnyH_take (i := 23) (v := ?v86) rfl (by kernel_rfl) (by kernel_rfl) (by kernel_rfl) (fun _ _ _ h => h) (Or.inl ⟨by kernel_rfl, ?h86⟩) hHeld ?_
      case h86 => intro u hSw; (try dsimp only at hSw); go_simp; try with_reducible rfl
      try simp only [List.getElem_toArray]
      try simp only [List.getElem_cons_succ]
      try simp only [List.getElem_cons_zero]
      try simp only [Act.put]
      try simp only [List.setIfInBounds_toArray]
      try simp only [List.set]
      refine wpAnyH_take (i := 24) (v := ?v87) rfl (by kernel_rfl) (by kernel_rfl) (by kernel_rfl) (fun _ _ _ h => h) (Or.inl ⟨by kernel_rfl, ?h87⟩) hHeld ?_
      case h87 => intro u hSw; have q0 := hSw.s.c2; clear hSw; go_simp; try with_reducible rfl
      try simp only [List.getElem_toArray]
      try simp only [List.getElem_cons_succ]
      try simp only [List.getElem_cons_zero]
      try simp only [Act.put]
      try simp only [List.setIfInBounds_toArray]
      try simp only [List.set]
      refine wpAnyH_take (i := 25) (v := ?v88) rfl (by kernel_rfl) (by kernel_rfl) (by kernel_rfl) (fun _ _ _ h => h) (Or.inl ⟨by kernel_rfl, ?h88⟩) hHeld ?_
      case h88 => intro u hSw; (try dsimp only at hSw); go_simp; try with_reducible rfl
      try simp only [List.getElem_toArray]
      try simp only [List.getElem_cons_succ]
      try simp only [List.getElem_cons_zero]
      try simp only [Act.put]
      try simp only [List.setIfInBounds_toArray]
      try simp only [List.set]
      refine wpAnyH_take (i := 26) (v := ?v89) rfl (by kernel_rfl) (by kernel_rfl) (by kernel_rfl) (fun _ _ _ h => h) (Or.inl ⟨by kernel_rfl, ?h89⟩) hHeld ?_
      case h89 => intro u hSw; (try dsimp only at hSw); go_simp; try with_reducible rfl
      try simp only [List.getElem_toArray]
      try simp only [List.getElem_cons_succ]
      try simp only [List.getElem_cons_zero]
      try simp only [Act.put]
      try simp only [List.setIfInBounds_toArray]
      try simp only [List.set]
      refine wpAnyH_take (i := 27) (v := ?v90) rfl (by kernel_rfl) (by kernel_rfl) (by kernel_rfl) (fun _ _ _ h => h) (Or.inl ⟨by kernel_rfl, ?h90⟩) hHeld ?_
      case h90 => intro u hSw; (try dsimp only at hSw); go_simp; try with_reducible rfl
      try simp only [List.getElem_toArray]
      try simp only [List.getElem_cons_succ]
      try simp only [List.getElem_cons_zero]
      try simp only [Act.put]
      try simp only [List.setIfInBounds_toArray]
      try simp only [List.set]
      refine wpAnyH_take (i := 28) (v := ?v91) rfl (by kernel_rfl) (by kernel_rfl) (by kernel_rfl) (fun _ _ _ h => h) (Or.inl ⟨by kernel_rfl, ?h91⟩) hHeld ?_
      case h91 => intro u hSw; (try dsimp only at hSw); go_simp; try with_reducible rfl
      try simp only [List.getElem_toArray]
      try simp only [List.getElem_cons_succ]
      try simp only [List.getElem_cons_zero]
      try simp only [Act.put]
      try simp only [List.setIfInBounds_toArray]
      try simp only [List.set]
      refine wpAnyH_take (i := 29) (v := ?v92) rfl (by kernel_rfl) (by kernel_rfl) (by kernel_rfl) (fun _ _ _ h => h) (Or.inl ⟨by kernel_rfl, ?h92⟩) hHeld ?_
      case h92 => intro u hSw; (try dsimp only at hSw); go_simp; try with_reducible rfl
      try simp only [List.getElem_toArray]
      try simp only [List.getElem_cons_succ]
      try simp only [List.getElem_cons_zero]
      try simp only [Act.put]
      try simp only [List.setIfInBounds_toArray]
      try simp only [List.set]
      refine wpAnyH_take (i := 30) (v := ?v93) rfl (by kernel_rfl) (by kernel_rfl) (by kernel_rfl) (fun _ _ _ h => h) (Or.inl ⟨by kernel_rfl, ?h93⟩) hHeld ?_
      case h93 => intro u hSw; have q0 := hSw.s.c1; have q1 := hSw.s.c2; clear hSw; go_simp; try with_reducible rfl
      try simp only [List.getElem_toArray]
      try simp only [List.getElem_cons_succ]
      try simp only [List.getElem_cons_zero]
      try simp only [Act.put]
      try simp only [List.setIfInBounds_toArray]
      try simp only [List.set]
      refine wpAnyH_ready (rs := [31]) (by kernel_rfl) (by simp) ?_
      refine AllReadyH.cons rfl (fun K hK => ?_) AllReadyH.nil
      go_simp
      go_wp2_with (go_at_call 28; refine (HLf.out _ hHeld.s.ru).mono ?_; rintro e w8 ⟨rfl, hb⟩)
      refine hK.out _ _ (hHeld.up hb) (fun hHeld => ?_)
      clear hK K
      clear hb
      try simp only [Act.put]
      try simp only [List.setIfInBounds_toArray]
      try simp only [List.set]
      refine wpAnyH_take (i := 32) (v := ?v94) rfl (by kernel_rfl) (by kernel_rfl) (by kernel_rfl) (fun _ _ _ h => h) (Or.inl ⟨by kernel_rfl, ?h94⟩) hHeld ?_
      case h94 => intro u hSw; (try dsimp only at hSw); go_simp; try with_reducible rfl
      try simp only [List.getElem_toArray]
      try simp only [List.getElem_cons_succ]
      try simp only [List.getElem_cons_zero]
      try simp only [Act.put]
      try simp only [List.setIfInBounds_toArray]
      try simp only [List.set]
      refine wpAnyH_take (i := 33) (v := ?v95) rfl (by kernel_rfl) (by kernel_rfl) (by kernel_rfl) (fun _ _ _ h => h) (Or.inl ⟨by kernel_rfl, ?h95⟩) hHeld ?_
      case h95 => intro u hSw; (try dsimp only at hSw); go_simp; try with_reducible rfl
      try simp only [List.getElem_toArray]
      try simp only [List.getElem_cons_succ]
      try simp only [List.getElem_cons_zero]
      try simp only [Act.put]
      try simp only [List.setIfInBounds_toArray]
      try simp only [List.set]
      refine wpAnyH_take (i := 34) (v := ?v96) rfl (by kernel_rfl) (by kernel_rfl) (by kernel_rfl) (fun _ _ _ h => h) (Or.inl ⟨by kernel_rfl, ?h96⟩) hHeld ?_
      case h96 => intro u hSw; (try dsimp only at hSw); go_simp; try with_reducible rfl
      try simp only [List.getElem_toArray]
      try simp only [List.getElem_cons_succ]
      try simp only [List.getElem_cons_zero]
      try simp only [Act.put]
      try simp only [List.setIfInBounds_toArray]
      try simp only [List.set]
      refine wpAnyH_take (i := 35) (v := ?v97) rfl (by kernel_rfl) (by kernel_rfl) (by kernel_rfl) (fun _ _ _ h => h) (Or.inl ⟨by kernel_rfl, ?h97⟩) hHeld ?_
      case h97 => intro u hSw; (try dsimp only at hSw); go_simp; try with_reducible rfl
      try simp only [List.getElem_toArray]
      try simp only [List.getElem_cons_succ]
      try simp only [List.getElem_cons_zero]
      try simp only [Act.put]
      try simp only [List.setIfInBounds_toArray]
      try simp only [List.set]
      refine wpAnyH_take (i := 36) (v := ?v98) rfl (by kernel_rfl) (by kernel_rfl) (by kernel_rfl) (fun _ _ _ h => h) (Or.inl ⟨by kernel_rfl, ?h98⟩) hHeld ?_
      case h98 => intro u hSw; (try dsimp only at hSw); go_simp; try with_reducible rfl
      try simp only [List.getElem_toArray]
      try simp only [List.getElem_cons_succ]
      try simp only [List.getElem_cons_zero]
      try simp only [Act.put]
      try simp only [List.setIfInBounds_toArray]
      try simp only [List.set]
      refine wpAnyH_take (i := 37) (v := ?v99) rfl (by kernel_rfl) (by kernel_rfl) (by kernel_rfl) (fun _ _ _ h => h) (Or.inl ⟨by kernel_rfl, ?h99⟩) hHeld ?_
      case h99 => intro u hSw; obtain ⟨q0, q1⟩ := hSw.s.l; clear hSw; go_simp; try with_reducible rfl
      try simp only [List.getElem_toArray]
      try simp only [List.getElem_cons_succ]
      try simp only [List.getElem_cons_zero]
      try simp only [Act.put]
      try simp only [List.setIfInBounds_toArray]
      try simp only [List.set]
      refine wpAnyH_take (i := 38) (v := ?v100) rfl (by kernel_rfl) (by kernel_rfl) (by kernel_rfl) (fun _ _ _ h => h) (Or.inl ⟨by kernel_rfl, ?h100⟩) hHeld ?_
      case h100 => intro u hSw; (try dsimp only at hSw); go_simp; try with_reducible rfl
      try simp only [List.getElem_toArray]
      try simp only [List.getElem_cons_succ]
      try simp only [List.getElem_cons_zero]
      try simp only [Act.put]
      try simp only [List.setIfInBounds_toArray]
      try simp only [List.set]
      refine wpAnyH_take (i := 39) (v := ?v101) rfl (by kernel_rfl) (by kernel_rfl) (by kernel_rfl) (fun _ _ _ h => h) (Or.inl ⟨by kernel_rfl, ?h101⟩) hHeld ?_
      case h101 => intro u hSw; (try dsimp only at hSw); go_simp; try with_reducible rfl
      try simp only [List.getElem_toArray]
      try simp only [List.getElem_cons_succ]
      try simp only [List.getElem_cons_zero]
      try simp only [Act.put]
      try simp only [List.setIfInBounds_toArray]
      try simp only [List.set]
      refine wpAnyH_take (i := 40) (v := ?v102) rfl (by kernel_rfl) (by kernel_rfl) (by kernel_rfl) (fun _ _ _ h => h) (Or.inl ⟨by kernel_rfl, ?h102⟩) hHeld ?_
      case h102 => intro u hSw; (try dsimp only at hSw); go_simp; try with_reducible rfl
      try simp only [List.getElem_toArray]
      try simp only [List.getElem_cons_succ]
      try simp only [List.getElem_cons_zero]
      try simp only [Act.put]
      try simp only [List.setIfInBounds_toArray]
      try simp only [List.set]
      refine wpAnyH_take (i := 41) (v := ?v103) rfl (by kernel_rfl) (by kernel_rfl) (by kernel_rfl) (fun _ _ _ h => h) (Or.inl ⟨by kernel_rfl, ?h103⟩) hHeld ?_
      case h103 => intro u hSw; (try dsimp only at hSw); go_simp; try with_reducible rfl
      try simp only [List.getElem_toArray]
      try simp only [List.getElem_cons_succ]
      try simp only [List.getElem_cons_zero]
      try simp only [Act.put]
      try simp only [List.setIfInBounds_toArray]
      try simp only [List.set]
      refine wpAnyH_take (i := 42) (v := ?v104) rfl (by kernel_rfl) (by kernel_rfl) (by kernel_rfl) (fun _ _ _ h => h) (Or.inl ⟨by kernel_rfl, ?h104⟩) hHeld ?_
      case h104 => intro u hSw; (try dsimp only at hSw); go_simp; try with_reducible rfl
      try simp only [List.getElem_toArray]
      try simp only [List.getElem_cons_succ]
      try simp only [List.getElem_cons_zero]
      try simp only [Act.put]
      try simp only [List.setIfInBounds_toArray]
      try simp only [List.set]
      refine wpAnyH_take (i := 43) (v := ?v105) rfl (by kernel_rfl) (by kernel_rfl) (by kernel_rfl) (fun _ _ _ h => h) (Or.inl ⟨by kernel_rfl, ?h105⟩) hHeld ?_
      case h105 => intro u hSw; have q0 := hSw.c6; clear hSw; go_simp; try with_reducible rfl
      try simp only [List.getElem_toArray]
      try simp only [List.getElem_cons_succ]
      try simp only [List.getElem_cons_zero]
      try simp only [Act.put]
      try simp only [List.setIfInBounds_toArray]
      try simp only [List.set]
      refine wpAnyH_take (i := 44) (v := ?v106) rfl (by kernel_rfl) (by kernel_rfl) (by kernel_rfl) (fun _ _ _ h => h) (Or.inl ⟨by kernel_rfl, ?h106⟩) hHeld ?_
      case h106 => intro u hSw; (try dsimp only at hSw); go_simp; try with_reducible rfl
      try simp only [List.getElem_toArray]
      try simp only [List.getElem_cons_succ]
      try simp only [List.getElem_cons_zero]
      try simp only [Act.put]
      try simp only [List.setIfInBounds_toArray]
      try simp only [List.set]
      refine wpAnyH_take (i := 45) (v := ?v107) rfl (by kernel_rfl) (by kernel_rfl) (by kernel_rfl) (fun _ _ _ h => h) (Or.inl ⟨by kernel_rfl, ?h107⟩) hHeld ?_
      case h107 => intro u hSw; (try dsimp only at hSw); go_simp; try with_reducible rfl
      try simp only [List.getElem_toArray]
      try simp only [List.getElem_cons_succ]
      try simp only [List.getElem_cons_zero]
      try simp only [Act.put]
      try simp only [List.setIfInBounds_toArray]
      try simp only [List.set]
      refine wpAnyH_take (i := 46) (v := ?v108) rfl (by kernel_rfl) (by kernel_rfl) (by kernel_rfl) (fun _ _ _ h => h) (Or.inl ⟨by kernel_rfl, ?h108⟩) hHeld ?_
      case h108 => intro u hSw; (try dsimp only at hSw); go_simp; try with_reducible rfl
      try simp only [List.getElem_toArray]
      try simp only [List.getElem_cons_succ]
      try simp only [List.getElem_cons_zero]
      try simp only [Act.put]
      try simp only [List.setIfInBounds_toArray]
      try simp only [List.set]
      refine wpAnyH_take (i := 47) (v := ?v109) rfl (by kernel_rfl) (by kernel_rfl) (by kernel_rfl) (fun _ _ _ h => h) (Or.inl ⟨by kernel_rfl, ?h109⟩) hHeld ?_
      case h109 => intro u hSw; (try dsimp only at hSw); go_simp; try with_reducible rfl
      try simp only [List.getElem_toArray]
      try simp only [List.getElem_cons_succ]
      try simp only [List.getElem_cons_zero]
      try simp only [Act.put]
      try simp only [List.setIfInBounds_toArray]
      try simp only [List.set]
      refine wpAnyH_take (i := 48) (v := ?v110) rfl (by kernel_rfl) (by kernel_rfl) (by kernel_rfl) (fun _ _ _ h => h) (Or.inl ⟨by kernel_rfl, ?h110⟩) hHeld ?_
      case h110 => intro u hSw; (try dsimp only at hSw); go_simp; try with_reducible rfl
      try simp only [List.getElem_toArray]
      try simp only [List.getElem_cons_succ]
      try simp only [List.getElem_cons_zero]
      try simp only [Act.put]
      try simp only [List.setIfInBounds_toArray]
      try simp only [List.set]
      refine wpAnyH_take (i := 49) (v := ?v111) rfl (by kernel_rfl) (by kernel_rfl) (by kernel_rfl) (fun _ _ _ h => h) (Or.inl ⟨by kernel_rfl, ?h111⟩) hHeld ?_
      case h111 => intro u hSw; (try dsimp only at hSw); go_simp; try with_reducible rfl
      try simp only [List.getElem_toArray]
      try simp only [List.getElem_cons_succ]
      try simp only [List.getElem_cons_zero]
      try simp only [Act.put]
      try simp only [List.setIfInBounds_toArray]
      try simp only [List.set]
      refine wpAnyH_take (i := 50) (v := ?v112) rfl (by kernel_rfl) (by kernel_rfl) (by kernel_rfl) (fun _ _ _ h => h) (Or.inl ⟨by kernel_rfl, ?h112⟩) hHeld ?_
      case h112 => intro u hSw; obtain ⟨q0, q1⟩ := hSw.s.l; clear hSw; go_simp; try with_reducible rfl
      try simp only [List.getElem_toArray]
      try simp only [List.getElem_cons_succ]
      try simp only [List.getElem_cons_zero]
      try simp only [Act.put]
      try simp only [List.setIfInBounds_toArray]
      try simp only [List.set]
      refine wpAnyH_take (i := 51) (v := ?v113) rfl (by kernel_rfl) (by kernel_rfl) (by kernel_rfl) (fun _ _ _ h => h) (Or.inl ⟨by kernel_rfl, ?h113⟩) hHeld ?_
      case h113 => intro u hSw; (try dsimp only at hSw); go_simp; try with_reducible rfl
      try simp only [List.getElem_toArray]
      try simp only [List.getElem_cons_succ]
      try simp only [List.getElem_cons_zero]
      try simp only [Act.put]
      try simp only [List.setIfInBounds_toArray]
      try simp only [List.set]
      refine wpAnyH_ready (rs := [52]) (by kernel_rfl) (by simp) ?_
      refine AllReadyH.cons rfl (fun K hK => ?_) AllReadyH.nil
      go_simp
      go_wp2_with (go_at_call 27; refine (HP.out _ hHeld.s.rx hHeld.s.ry).mono ?_; intro e w9 hp; obtain ⟨p9, c9, r9, d9, m9, rfl, hc9, _, hc92, _, hb, hLi9⟩ := hp; have h9r := hLi9.s.reads; clear hLi9)
      refine hK.out _ _ (hHeld.up hb) (fun hHeld => ?_)
      clear hK K
      clear hb
      try simp only [Act.put]
      try simp only [List.setIfInBounds_toArray]
      try simp only [List.set]
      refine wpAnyH_take (i := 53) (v := ?v114) rfl (by kernel_rfl) (by kernel_rfl) (by kernel_rfl) (fun _ _ _ h => h) (Or.inl ⟨by kernel_rfl, ?h114⟩) hHeld ?_
      case h114 => intro u hSw; (try dsimp only at hSw); go_simp; try with_reducible rfl
      try simp only [List.getElem_toArray]
      try simp only [List.getElem_cons_succ]
      try simp only [List.getElem_cons_zero]
      try simp only [Act.put]
      try simp only [List.setIfInBounds_toArray]
      try simp only [List.set]
      refine wpAnyH_take (i := 54) (v := ?v115) rfl (by kernel_rfl) (by kernel_rfl) (by kernel_rfl) (fun _ _ _ h => h) (Or.inl ⟨by kernel_rfl, ?h115⟩) hHeld ?_
      case h115 => intro u hSw; (try dsimp only at hSw); go_simp; try with_reducible rfl
      try simp only [List.getElem_toArray]
      try simp only [List.getElem_cons_succ]
      try simp only [List.getElem_cons_zero]
      try simp only [Act.put]
      try simp only [List.setIfInBounds_toArray]
      try simp only [List.set]
      refine wpAnyH_ready (rs := [55]) (by kernel_rfl) (by simp) ?_
      refine AllReadyH.cons rfl (fun K hK => ?_) AllReadyH.nil
      go_simp
      go_wp2_with (go_at_call 29; refine (HRs.out _ _ _ hc9 hc92 h9r).mono ?_; intro e wa hp; obtain ⟨aw, cw, Dw, he, hb, _, _, _⟩ := hp; rw [HN8.out] at he; subst he)
      refine hK.out _ _ (hHeld.up hb) (fun hHeld => ?_)
      clear hK K
      clear hb
      try simp only [Act.put]
      try simp only [List.setIfInBounds_toArray]
      try simp only [List.set]
      refine wpAnyH_take (i := 56) (v := ?v116) rfl (by kernel_rfl) (by kernel_rfl) (by kernel_rfl) (fun _ _ _ h => h) (Or.inl ⟨by kernel_rfl, ?h116⟩) hHeld ?_
      case h116 => intro u hSw; (try dsimp only at hSw); go_simp; try with_reducible rfl
      try simp only [List.getElem_toArray]
      try simp only [List.getElem_cons_succ]
      try simp only [List.getElem_cons_zero]
      try simp only [Act.put]
      try simp only [List.setIfInBounds_toArray]
      try simp only [List.set]
      refine wpAnyH_take (i := 57) (v := ?v117) rfl (by kernel_rfl) (by kernel_rfl) (by kernel_rfl) (fun _ _ _ h => h) (Or.inl ⟨by kernel_rfl, ?h117⟩) hHeld ?_
      case h117 => intro u hSw; (try dsimp only at hSw); go_simp; try with_reducible rfl
      try simp only [List.getElem_toArray]
      try simp only [List.getElem_cons_succ]
      try simp only [List.getElem_cons_zero]
      try simp only [Act.put]
      try simp only [List.setIfInBounds_toArray]
      try simp only [List.set]
      refine wpAnyH_take (i := 58) (v := ?v118) rfl (by kernel_rfl) (by kernel_rfl) (by kernel_rfl) (fun _ _ _ h => h) (Or.inl ⟨by kernel_rfl, ?h118⟩) hHeld ?_
      case h118 => intro u hSw; (try dsimp only at hSw); go_simp; try with_reducible rfl
      try simp only [List.getElem_toArray]
      try simp only [List.getElem_cons_succ]
      try simp only [List.getElem_cons_zero]
      try simp only [Act.put]
      try simp only [List.setIfInBounds_toArray]
      try simp only [List.set]
      refine wpAnyH_take (i := 59) (v := ?v119) rfl (by kernel_rfl) (by kernel_rfl) (by kernel_rfl) (fun _ _ _ h => h) (Or.inl ⟨by kernel_rfl, ?h119⟩) hHeld ?_
      case h119 => intro u hSw; (try dsimp only at hSw); go_simp; try with_reducible rfl
      try simp only [List.getElem_toArray]
      try simp only [List.getElem_cons_succ]
      try simp only [List.getElem_cons_zero]
      try simp only [Act.put]
      try simp only [List.setIfInBounds_toArray]
      try simp only [List.set]
      refine wpAnyH_take (i := 60) (v := ?v120) rfl (by kernel_rfl) (by kernel_rfl) (by kernel_rfl) (fun _ _ _ h => h) (Or.inl ⟨by kernel_rfl, ?h120⟩) hHeld ?_
      case h120 => intro u hSw; (try dsimp only at hSw); go_simp; try with_reducible rfl
      try simp only [List.getElem_toArray]
      try simp only [List.getElem_cons_succ]
      try simp only [List.getElem_cons_zero]
      try simp only [Act.put]
      try simp only [List.setIfInBounds_toArray]
      try simp only [List.set]
      refine wpAnyH_done (by kernel_rfl) ?_ _
      have g := hHeld.s.g
      clear hHeld
      go_wp2_with fail
      go_ret
      exact ⟨rfl, g⟩
  · have dq : (q != 0) = true := by simpa using hq
    clear HT
    go_upto_region 6 with (fail)
    clear C0
    refine wp_region_held_drew (S := fun V => TnS w bl bc x y xs ys cc d q p r us cp cr V) (by kernel_rfl) (hD.up (Below.refl _ _).drew) (fun hHeld => ?_)
    generalize Y2.drew = D at hHeld ⊢
    clear hD
    refine wpAnyH_take (i := 0) (v := ?v5) rfl (by kernel_rfl) (by kernel_rfl) (by kernel_rfl) (fun _ _ _ h => h) (Or.inl ⟨by kernel_rfl, ?h5⟩) hHeld ?_
    case h5 => intro u hSw; obtain ⟨q0, q1⟩ := hSw.l; clear hSw; go_simp; try with_reducible rfl
    try simp only [List.getElem_toArray]
    try simp only [List.getElem_cons_succ]
    try simp only [List.getElem_cons_zero]
    try simp only [Act.put]
    try simp only [List.setIfInBounds_toArray]
    try simp only [List.set]
    refine wpAnyH_take (i := 1) (v := ?v6) rfl (by kernel_rfl) (by kernel_rfl) (by kernel_rfl) (fun _ _ _ h => h) (Or.inl ⟨by kernel_rfl, ?h6⟩) hHeld ?_
    case h6 => intro u hSw; (try dsimp only at hSw); go_simp; try with_reducible rfl
    try simp only [List.getElem_toArray]
    try simp only [List.getElem_cons_succ]
    try simp only [List.getElem_cons_zero]
    try simp only [Act.put]
    try simp only [List.setIfInBounds_toArray]
    try simp only [List.set]
    refine wpAnyH_take (i := 4) (v := ?v7) rfl (by kernel_rfl) (by kernel_rfl) (by kernel_rfl) (fun _ _ _ h => h) (Or.inl ⟨by kernel_rfl, ?h7⟩) hHeld ?_
    case h7 => intro u hSw; (try dsimp only at hSw); go_simp; try with_reducible rfl
    try simp only [List.getElem_toArray]
    try simp only [List.getElem_cons_succ]
    try simp only [List.getElem_cons_zero]
    try simp only [Act.put]
    try simp only [List.setIfInBounds_toArray]
    try simp only [List.set]
    refine wpAnyH_take (i := 5) (v := ?v8) rfl (by kernel_rfl) (by kernel_rfl) (by kernel_rfl) (fun _ _ _ h => h) (Or.inl ⟨by kernel_rfl, ?h8⟩) hHeld ?_
    case h8 => intro u hSw; have q0 := hSw.c0; clear hSw; go_simp; try with_reducible rfl
    try simp only [List.getElem_toArray]
    try simp only [List.getElem_cons_succ]
    try simp only [List.getElem_cons_zero]
    try simp only [Act.put]
    try simp only [List.setIfInBounds_toArray]
    try simp only [List.set]
    refine wpAnyH_ready (rs := [2]) (by kernel_rfl) (by simp) ?_
    refine AllReadyH.cons rfl (fun K hK => ?_) AllReadyH.nil
    go_simp
    go_wp2_with (go_at_call 27; refine (HP.out _ hHeld.rx hHeld.ry).mono ?_; intro e w4 hp; obtain ⟨p4, c4, r4, d4, m4, rfl, _, _, _, _, hb, _⟩ := hp)
    refine hK.out _ _ (hHeld.up hb) (fun hHeld => ?_)
    clear hK K
    clear hb
    try simp only [Act.put]
    try simp only [List.setIfInBounds_toArray]
    try simp only [List.set]
    refine wpAnyH_take (i := 3) (v := ?v9) rfl (by kernel_rfl) (by kernel_rfl) (by kernel_rfl) (fun _ _ _ h => h) (Or.inl ⟨by kernel_rfl, ?h9⟩) hHeld ?_
    case h9 => intro u hSw; (try dsimp only at hSw); go_simp; try with_reducible rfl
    try simp only [List.getElem_toArray]
    try simp only [List.getElem_cons_succ]
    try simp only [List.getElem_cons_zero]
    try simp only [Act.put]
    try simp only [List.setIfInBounds_toArray]
    try simp only [List.set]
    refine wpAnyH_take (i := 6) (v := ?v10) rfl (by kernel_rfl) (by kernel_rfl) (by kernel_rfl) (fun _ _ _ h => h) (Or.inl ⟨by kernel_rfl, ?h10⟩) hHeld ?_
    case h10 => intro u hSw; (try dsimp only at hSw); go_simp; try with_reducible rfl
    try simp only [List.getElem_toArray]
    try simp only [List.getElem_cons_succ]
    try simp only [List.getElem_cons_zero]
    try simp only [Act.put]
    try simp only [List.setIfInBounds_toArray]
    try simp only [List.set]
    refine wpAnyH_take (i := 7) (v := ?v11) rfl (by kernel_rfl) (by kernel_rfl) (by kernel_rfl) (fun _ _ _ h => h) (Or.inl ⟨by kernel_rfl, ?h11⟩) hHeld ?_
    case h11 => intro u hSw; (try dsimp only at hSw); go_simp; try with_reducible rfl
    try simp only [List.getElem_toArray]
    try simp only [List.getElem_cons_succ]
    try simp only [List.getElem_cons_zero]
    try simp only [Act.put]
    try simp only [List.setIfInBounds_toArray]
    try simp only [List.set]
    refine wpAnyH_done (by kernel_rfl) ?_ _
    have g := hHeld.g
    clear hHeld
    go_wp2_with fail
    go_ret
    exact ⟨rfl, g⟩

theorem lawTorn_over (a : Option Addr) (n c : Nat) (w : World) (h : 1048576 < n) :
    Calls Try.prog 4 #[.slice a n c] w fun e w' => e = .returned (.bool true) ∧ Below w.heap.size w w' := by
  go_enter Try.func4, Try.ntmps4
  go_wp2_with fail
  refine (lwBig_big a n c _ h).mono ?_
  rintro e w0 ⟨rfl, h0⟩
  rw [h0]
  clear h0 w0
  go_wp2_with fail
  go_ret
  exact ⟨rfl, Below.refl _ _⟩

theorem lawTorn_any (a : Option Addr) (n c : Nat) (zs : List Int) (w : World) (h : IsRow .u8 w a n c zs) :
    Calls Try.prog 4 #[.slice a n c] w fun e w' => e = .returned (.bool true) ∧ Below w.heap.size w w' := by
  obtain ⟨hn, _, hr, hz⟩ := Dr.isRow_reads h
  by_cases hs : 1048576 < n
  · exact lawTorn_over a n c w hs
  · exact lawTorn_fits a n c (zs.take n) w hr hn (by omega) hz

end Go.Proofs.Ytcjkjenebnodbaa
