/-
  The program's cellsOf.
-/
import Derived.Test.YteebbaleejbodaaARLawA
import Derived.Maps.AppendAt
import Derived.Deep.CutRange

namespace Go.Proofs.Yteebbaleejbodaa
open Go.RowKit
set_option linter.unusedVariables false

theorem Arr.cellReads {V : World} {b : Nat} {ys : List Int} (h : Arr V b ys) (p l : Nat) (hl : p + l ≤ 64) : Reads V (some ⟨b, p, none⟩) ((ys.drop p).take l) := by
  have := (h.bytes (Nat.zero_le _) h.lt).reads.cell p l (by rw [h.len]; exact hl)
  rw [Nat.zero_add] at this
  exact this

theorem infoP' : (Try.prog.info? 252).map (fun i => (i.zero, i.size, i.bytes)) = some (some (.agg #[.int .i64 0, .int .i64 0, .int .i64 0, .int .i64 0, .int .i64 0, .int .i64 0, .int .i64 0, .int .i64 0, .int .i64 0, .string ⟨#[]⟩]), 10, 88) := by kernel_rfl
theorem infoP : ∃ i, Try.prog.info? 252 = some i ∧ i.zero = some (.agg #[.int .i64 0, .int .i64 0, .int .i64 0, .int .i64 0, .int .i64 0, .int .i64 0, .int .i64 0, .int .i64 0, .int .i64 0, .string ⟨#[]⟩]) ∧ i.size = 10 ∧ i.bytes = 88 := by
  have h := infoP'
  cases hi : Try.prog.info? 252 with
  | none => rw [hi] at h; simp at h
  | some i => rw [hi] at h; simp at h; exact ⟨i, rfl, h.1, h.2.1, h.2.2⟩

theorem cells_new (w : World) (vs : List Value) (t : TypeId) : ∀ j u, vs[j]? = some u → (w.alloc (.cells vs.toArray t)).cell? ((⟨w.heap.size, 0, none⟩ : Addr).add j) = some u := by
  intro j u hu
  have ea : (⟨w.heap.size, 0, none⟩ : Addr).add j = ⟨w.heap.size, j, none⟩ := by unfold Addr.add; split <;> simp_all
  rw [ea]
  unfold World.cell?
  simp only [heap_alloc_new]
  simpa using hu

theorem flat_snoc (xs : List Spt) (x : Spt) : flat spE xs ++ spE x = flat spE (xs ++ [x]) := by rw [flat_append, flat_one]

/-- What is there while a cell is taken apart: a span at y, the page at b. -/
structure CuS (w : World) (zs : List Int) (y b p l : Nat) (v : Value) (xs : List Spt) (V : World) : Prop where
  s0 : V.cell? ⟨y, 0, none⟩ = some (.int .u64 p)
  s1 : V.cell? ⟨y, 1, none⟩ = some (.int .u64 l)
  a : Arr V b zs
  g : Below w.heap.size w V
  o : V.ownsRow w.heap.size 252 10 v xs.length (flat spE xs)
theorem CuS.up {w : World} {zs : List Int} {y b p l : Nat} {v : Value} {xs : List Spt} {V W : World} (h : CuS w zs y b p l v xs V) (hb : Below V.heap.size V W) : CuS w zs y b p l v xs W :=
  ⟨(hb.cell (p := ⟨y, 0, none⟩) (World.block_lt_of_cell? V _ h.s0)).trans h.s0, (hb.cell (p := ⟨y, 1, none⟩) (World.block_lt_of_cell? V _ h.s1)).trans h.s1, h.a.grown hb, h.g.trans (hb.mono h.g.size), ownsRow_below h.o hb⟩

theorem CuS.turned {w : World} {zs : List Int} {y b p l : Nat} {v : Value} {xs : List Spt} {V W : World} (h : CuS w zs y b p l v xs V) {ab : Nat} (ht : Turned ab (ab + 1) V W) (h1 : w.heap.size ≤ ab) (h2 : y < ab ∧ b < ab) (h3 : ∀ g, v.ownBlock = some g → g < ab) : CuS w zs y b p l v xs W := by
  refine ⟨ht.cell h.s0 (.inl h2.1), ht.cell h.s1 (.inl h2.1), h.a.turned ht (.inl h2.2), h.g.trans ⟨ht.os, ht.tape, ht.output, ht.size, fun k hk => ht.block k (Nat.lt_of_lt_of_le hk h.g.size) (by omega)⟩, ?_⟩
  obtain ⟨hl, hh | ⟨g, cap, cur, rfl, hbb, hc, r⟩⟩ := h.o
  · exact ⟨hl, .inl hh⟩
  · have hg := h3 g (by simp [Value.ownBlock])
    exact ⟨hl, .inr ⟨g, cap, cur, rfl, hbb, (ht.block g (Array.getElem?_eq_some_iff.1 hc).1 (by omega)).trans hc, r⟩⟩

/-- Block b holds a CellResult. -/
structure CelAt (w : World) (b : Nat) (q f p l t k v : Int) (s : ByteArray) : Prop where
  c0 : w.cell? ⟨b, 0, none⟩ = some (.int .i64 q)
  c1 : w.cell? ⟨b, 1, none⟩ = some (.int .i64 f)
  c2 : w.cell? ⟨b, 2, none⟩ = some (.int .i64 p)
  c3 : w.cell? ⟨b, 3, none⟩ = some (.int .i64 l)
  c4 : w.cell? ⟨b, 4, none⟩ = some (.int .i64 t)
  c5 : w.cell? ⟨b, 5, none⟩ = some (.int .i64 k)
  c6 : w.cell? ⟨b, 6, none⟩ = some (.int .i64 v)
  c7 : w.cell? ⟨b, 7, none⟩ = some (.string s)

set_option maxRecDepth 20000 in
set_option maxHeartbeats 4000000 in
theorem cellsOf_any (pn : Int) (a : Option Addr) (zs : List Int) (n c : Nat) (w : World) (hn : zs.length = n) (hm : n ≤ 1048576) (hnc : n ≤ c) (hr : Reads w a zs) (hz : ∀ z ∈ zs, 0 ≤ z ∧ z ≤ 255) :
    Calls Try.prog 172 #[.int .i64 pn, .slice a n c] w fun e w' => ∃ v, e = .returned (.tuple #[v, .int .i64 (pageC zs)]) ∧ Below w.heap.size w w' ∧ w'.ownsRow w.heap.size 252 10 v (pageL pn zs).length (flat spE (pageL pn zs)) := by
  go_enter Try.func172, Try.ntmps172
  go_wp2_with fail
  refine (loadPage_all a zs n c _ hn hm hnc hr hz).mono ?_
  rintro e w1 ⟨rfl, g1⟩
  clear hr
  have hpl := pg_len zs
  obtain ⟨ys, hys⟩ : ∃ ys, ys = pg zs := ⟨_, rfl⟩
  have HY : Hid (ys = pg zs) := hys
  rw [← hys] at hpl ⊢
  clear hys
  go_upto_region 2 with (refine wpList_storePg rfl _ _ rfl _ ys rfl rfl hpl (filled 0 0) (arr_new _ (filled 0 0) rfl) ?_)
  generalize hZ : World.setRow _ w1.heap.size (pgC ys) = Z
  have hA : Arr Z w1.heap.size ys := by rw [← hZ]; exact (arr_new w1 (filled 0 0) rfl).put hpl
  have gZ : Below w1.heap.size w1 Z := by rw [← hZ]; exact setRow_below ((Below.refl _ _).alloc (Nat.le_refl _) _) (Nat.le_refl _) _
  have g : Below w.heap.size w Z := g1.trans (gZ.mono g1.size)
  clear hZ gZ g1
  by_cases hq : fltOf zs = 0
  · have hF := fine_of hz hq
    have hyz : ys = zs := by rw [HY.out, pg, if_pos hF.pg.len]
    subst hyz
    have hfew := hF.few
    have HC : Hid (pageC ys = (if badTo ys (nb ys 0) = true then 5 else 0)) := by show _ = _; unfold pageC; rw [if_pos hq]
    rw [hq]
    clear hq HY
    generalize w1.heap.size = b at hA
    go_wp2_with (refine wpList_loadPg rfl _ rfl _ rfl ys (by assumption) ?_)
    refine (slots_any ys _ hF.pg).mono ?_
    rintro e w3 ⟨rfl, g3⟩
    have hA := hA.grown g3
    have g := g.trans (g3.mono g.size)
    clear g3
    obtain ⟨m, hm0⟩ : ∃ m, m = nb ys 0 := ⟨_, rfl⟩
    have HM : Hid (nb ys 0 = m) := hm0.symm
    rw [← hm0] at hfew ⊢
    clear hm0
    have HF : Hid (Fine ys) := hF
    clear hF
    go_wp2_with fail
    go_loopw [22, 8] (fun i v wr => ∃ k : Nat, k ≤ m ∧ i = .int .u64 k ∧ Arr wr b ys ∧ Below w.heap.size w wr ∧ wr.ownsRow w.heap.size 252 10 v (cellsTo pn ys k).length (flat spE (cellsTo pn ys k)) ∧ Hid (badTo ys k = false)) (fun i _ _ => m - (intOf i).toNat)
    case atStart => exact ⟨0, Nat.zero_le _, rfl, hA, g, ownsRow_nil _ _ _ _, rfl⟩
    case round =>
      clear hA g
      obtain ⟨k, hk, rfl, hA, g, ho, hbad⟩ := hrel
      by_cases hlt : k < m
      · have hkm : (k : Int) < (m : Int) := by omega
        go_wp2_with (refine wpList_loadPg rfl _ rfl _ rfl ys (by assumption) ?_)
        refine (spanOf_any ys k _ HF.out.pg (by omega)).mono ?_
        rintro e w4 ⟨rfl, g4⟩
        have hA := hA.grown g4
        have ho := ownsRow_below ho g4
        have g := g.trans (g4.mono g.size)
        clear g4
        have hpl2 := HF.out.place k (by rw [HM.out]; exact hlt)
        have hem : empB ys k = (nb ys (2 + 2 * k) == 0 && nb ys (3 + 2 * k) == 0) := rfl
        have hce : cellOf ys k = (ys.drop (nb ys (2 + 2 * k))).take (nb ys (3 + 2 * k)) := rfl
        have hcl := cellOf_length HF.out k (by rw [HM.out]; exact hlt)
        have hp255 := nb_lt HF.out.pg (2 + 2 * k)
        generalize nb ys (2 + 2 * k) = p at hpl2 hem hce hp255 ⊢
        generalize nb ys (3 + 2 * k) = l at hpl2 hem hce hcl ⊢
        go_upto_region 9 with (fail)
        generalize hV : World.alloc w4 _ = V
        have gV : Below w4.heap.size w4 V := by rw [← hV]; exact (Below.refl _ _).alloc (Nat.le_refl _) _
        have s0 : V.cell? ⟨w4.heap.size, 0, none⟩ = some (.int .u64 p) := by rw [← hV]; simp [go_sem]
        have s1 : V.cell? ⟨w4.heap.size, 1, none⟩ = some (.int .u64 l) := by rw [← hV]; simp [go_sem]
        obtain ⟨xs, hxs⟩ : ∃ xs, xs = cellsTo pn ys k := ⟨_, rfl⟩
        have HX : Hid (cellsTo pn ys k = xs) := hxs.symm
        rw [← hxs] at ho
        have hC : CuS w ys w4.heap.size b p l u8 xs V := ⟨s0, s1, hA.grown gV, g.trans (gV.mono g.size), ownsRow_below ho gV⟩
        clear hV gV hA g ho hxs
        generalize w4.heap.size = y at hC s0 s1
        go_wp2_with fail
        refine (isEmpty_any p l _).mono ?_
        rintro e w5 ⟨rfl, g5⟩
        have hC := hC.up g5
        clear g5 s0 s1
        rw [← hem]
        cases he : empB ys k
        · have HT : Hid (cellsTo pn ys (k + 1) = xs ++ [⟨pn, k, unp (cellOf ys k)⟩]) := by show _ = _; simp only [cellsTo, oneC, he, HX.out]; rfl
          have HB : Hid (badAt ys k = decide ((unp (cellOf ys k)).q ≠ 0)) := by show _ = _; simp [badAt, he]
          rw [he] at hem
          have hne : ¬ (p = 0 ∧ l = 0) := fun e => by simp [e.1, e.2] at hem
          have hpl64 : p ≠ 0 ∧ l ≠ 0 ∧ p + l ≤ 64 := by omega
          obtain ⟨hp0, hl0, hpl3⟩ := hpl64
          obtain ⟨cq, cf, cp, cl, ct, ck, cv, cs, hu⟩ := celV_form (unp (cellOf ys k))
          have HU : Hid (unp (cellOf ys k) = Cel.mk cq cf cp cl ct ck cv cs) := hu
          have hcq : cq = 0 ∨ cq = 5 := by have := unp_q (cellOf ys k); rw [hu] at this; exact this
          have hzc : ∀ z ∈ cellOf ys k, 0 ≤ z ∧ z ≤ 255 := fun z hz' => hz z (List.mem_of_mem_drop (List.mem_of_mem_take hz'))
          have HUn : Hid (∀ X, Arr X b ys → Calls Try.prog 190 #[.slice (some ⟨b, p, none⟩) l (64 - p)] X fun e w' => e = .returned (.agg #[.int .i64 cq, .int .i64 cf, .int .i64 cp, .int .i64 cl, .int .i64 ct, .int .i64 ck, .int .i64 cv, .string cs]) ∧ Below X.heap.size X w') := by
            intro X hX
            have := implUnpackCell_any (some ⟨b, p, none⟩) (cellOf ys k) l (64 - p) X hcl (by omega) (by rw [hce]; exact hX.cellReads p l hpl3) hzc
            rw [hu] at this
            exact this
          have HQ0 : Hid (p + l ≤ 64) := hpl3
          obtain ⟨q, hq⟩ : ∃ q, q = p + l := ⟨_, rfl⟩
          have HQ : Hid (p + l = q) := hq.symm
          have hq64 : (q : Int) ≤ 64 := by omega
          have hpq : (p : Int) ≤ (q : Int) := by omega
          have hql : q - p = l := by omega
          have hp64 : ¬ (64 = p) := by omega
          have hl255 : l ≤ 255 := by omega
          clear hne hem hce hcl hq hu hzc hpl2 he
          go_upto_region 10 with (fail)
          go_cut [11] from 30 to 50 (fun s11 wc => ∃ ab : Nat, s11 = .pointer (some ⟨ab, 0, none⟩) ∧ CuS w ys y b p l u8 xs wc ∧ CelAt wc ab cq cf cp cl ct ck cv cs)
          case first =>
            refine wp_region_held_drew (S := fun V => CuS w ys y b p l u8 xs V) (by kernel_rfl) (hC.up (Below.refl _ _).drew) (fun hHeld => ?_)
            generalize w5.drew = D at hHeld ⊢
            clear hC
            refine wpAnyH_take (i := 0) (v := ?v1) rfl (by kernel_rfl) (by kernel_rfl) (by kernel_rfl) (fun _ _ _ h => h) (Or.inl ⟨by kernel_rfl, ?h1⟩) hHeld ?_
            case h1 => intro u hSw; (try dsimp only at hSw); go_simp; try with_reducible rfl
            try simp only [List.getElem_toArray]
            try simp only [List.getElem_cons_succ]
            try simp only [List.getElem_cons_zero]
            try simp only [Act.put]
            try simp only [List.setIfInBounds_toArray]
            try simp only [List.set]
            refine wpAnyH_take (i := 1) (v := ?v2) rfl (by kernel_rfl) (by kernel_rfl) (by kernel_rfl) (fun _ _ _ h => h) (Or.inl ⟨by kernel_rfl, ?h2⟩) hHeld ?_
            case h2 => intro u hSw; have q0 := hSw.s0; clear hSw; go_simp; try with_reducible rfl
            try simp only [List.getElem_toArray]
            try simp only [List.getElem_cons_succ]
            try simp only [List.getElem_cons_zero]
            try simp only [Act.put]
            try simp only [List.setIfInBounds_toArray]
            try simp only [List.set]
            refine wpAnyH_take (i := 2) (v := ?v3) rfl (by kernel_rfl) (by kernel_rfl) (by kernel_rfl) (fun _ _ _ h => h) (Or.inl ⟨by kernel_rfl, ?h3⟩) hHeld ?_
            case h3 => intro u hSw; have q0 := hSw.s0; have q1 := hSw.s1; clear hSw; go_simp; try with_reducible rfl
            try simp only [List.getElem_toArray]
            try simp only [List.getElem_cons_succ]
            try simp only [List.getElem_cons_zero]
            try simp only [Act.put]
            try simp only [List.setIfInBounds_toArray]
            try simp only [List.set]
            refine wpAnyH_ready (rs := [3, 6]) (by kernel_rfl) (by simp) ?_
            refine AllReadyH.cons rfl (fun K hK => ?_) (AllReadyH.cons rfl (fun K hK => ?_) AllReadyH.nil)
            · go_simp
              go_wp2_with (go_at_call 191; refine (spanEnd_any p l _ (by omega) (by omega)).mono ?_; rintro e W1 ⟨rfl, gg⟩; rw [HQ.out])
              refine hK.out _ _ (hHeld.up gg) (fun hHeld => ?_)
              clear hK K
              clear gg
              try simp only [Act.put]
              try simp only [List.setIfInBounds_toArray]
              try simp only [List.set]
              refine wpAnyH_take (i := 4) (v := ?v4) rfl (by kernel_rfl) (by kernel_rfl) (by kernel_rfl) (fun _ _ _ h => h) (Or.inl ⟨by kernel_rfl, ?h4⟩) hHeld ?_
              case h4 => intro u hSw; (try dsimp only at hSw); go_simp; try with_reducible rfl
              try simp only [List.getElem_toArray]
              try simp only [List.getElem_cons_succ]
              try simp only [List.getElem_cons_zero]
              try simp only [Act.put]
              try simp only [List.setIfInBounds_toArray]
              try simp only [List.set]
              refine wpAnyH_ready (rs := [5, 6]) (by kernel_rfl) (by simp) ?_
              refine AllReadyH.cons rfl (fun K hK => ?_) (AllReadyH.cons rfl (fun K hK => ?_) AllReadyH.nil)
              · go_simp
                go_wp2_with (go_at_call 190; refine (HUn.out _ hHeld.a).mono ?_; rintro e W2 ⟨rfl, gg⟩)
                refine hK.out _ _ (hHeld.up gg) (fun hHeld => ?_)
                clear hK K
                clear gg
                try simp only [Act.put]
                try simp only [List.setIfInBounds_toArray]
                try simp only [List.set]
                refine wpAnyH_ready (rs := [6]) (by kernel_rfl) (by simp) ?_
                refine AllReadyH.cons rfl (fun K hK => ?_) AllReadyH.nil
                have gg : Below W2.heap.size W2 (W2.alloc (.cells #[.int .i64 0, .int .i64 0, .int .i64 0, .int .i64 0, .int .i64 0, .int .i64 0, .int .i64 0, .string ⟨#[]⟩] 169)) := by go_grown
                have hB : CelOwn (W2.alloc (.cells #[.int .i64 0, .int .i64 0, .int .i64 0, .int .i64 0, .int .i64 0, .int .i64 0, .int .i64 0, .string ⟨#[]⟩] 169)) W2.heap.size := ⟨by simp [go_sem], by simp [go_sem], by simp [go_sem], by simp [go_sem], by simp [go_sem], by simp [go_sem], by simp [go_sem], by simp [go_sem], by simp [go_sem], by simp [go_sem], by simp [go_sem], by simp [go_sem], by simp [go_sem], by simp [go_sem], by simp [go_sem], by simp [go_sem]⟩
                have hab1 : w.heap.size ≤ W2.heap.size := hHeld.g.size
                have hab2 : y < W2.heap.size ∧ b < W2.heap.size := ⟨World.block_lt_of_cell? _ _ hHeld.s0, hHeld.a.lt⟩
                have hab3 : ∀ g, u8.ownBlock = some g → g < W2.heap.size := fun g hg => (hHeld.o.lt g hg).2
                go_simp
                refine hK.out _ _ (hHeld.up gg) (fun hHeld => ?_)
                clear hK K gg
                generalize W2.alloc (.cells #[.int .i64 0, .int .i64 0, .int .i64 0, .int .i64 0, .int .i64 0, .int .i64 0, .int .i64 0, .string ⟨#[]⟩] 169) = W3 at hHeld hB ⊢
                generalize W2.heap.size = ab at hB hab1 hab2 hab3 ⊢
                try simp only [Act.put]
                try simp only [List.setIfInBounds_toArray]
                try simp only [List.set]
                have T : Turned ab (ab + 1) W3 ((((((((W3.setCell ⟨ab, 0, none⟩ (.int .i64 cq)).setCell ⟨ab, 1, none⟩ (.int .i64 cf)).setCell ⟨ab, 2, none⟩ (.int .i64 cp)).setCell ⟨ab, 3, none⟩ (.int .i64 cl)).setCell ⟨ab, 4, none⟩ (.int .i64 ct)).setCell ⟨ab, 5, none⟩ (.int .i64 ck)).setCell ⟨ab, 6, none⟩ (.int .i64 cv)).setCell ⟨ab, 7, none⟩ (.string cs)) := ((((((((Turned.refl ab (ab + 1) W3).setCell (p := ⟨ab, 0, none⟩) (Nat.le_refl _) (Nat.lt_succ_self _) _).setCell (p := ⟨ab, 1, none⟩) (Nat.le_refl _) (Nat.lt_succ_self _) _).setCell (p := ⟨ab, 2, none⟩) (Nat.le_refl _) (Nat.lt_succ_self _) _).setCell (p := ⟨ab, 3, none⟩) (Nat.le_refl _) (Nat.lt_succ_self _) _).setCell (p := ⟨ab, 4, none⟩) (Nat.le_refl _) (Nat.lt_succ_self _) _).setCell (p := ⟨ab, 5, none⟩) (Nat.le_refl _) (Nat.lt_succ_self _) _).setCell (p := ⟨ab, 6, none⟩) (Nat.le_refl _) (Nat.lt_succ_self _) _).setCell (p := ⟨ab, 7, none⟩) (Nat.le_refl _) (Nat.lt_succ_self _) _
                have habl : ab < W3.heap.size := World.block_lt_of_cell? _ _ hB.c0
                obtain ⟨a0, a1, a2, a3, a4, a5, a6, a7, f0, f1, f2, f3, f4, f5, f6, f7⟩ := hB
                have hC2 : CuS w ys y b p l u8 xs ((((((((W3.setCell ⟨ab, 0, none⟩ (.int .i64 cq)).setCell ⟨ab, 1, none⟩ (.int .i64 cf)).setCell ⟨ab, 2, none⟩ (.int .i64 cp)).setCell ⟨ab, 3, none⟩ (.int .i64 cl)).setCell ⟨ab, 4, none⟩ (.int .i64 ct)).setCell ⟨ab, 5, none⟩ (.int .i64 ck)).setCell ⟨ab, 6, none⟩ (.int .i64 cv)).setCell ⟨ab, 7, none⟩ (.string cs)) := hHeld.turned T hab1 hab2 hab3
                have hCel : CelAt ((((((((W3.setCell ⟨ab, 0, none⟩ (.int .i64 cq)).setCell ⟨ab, 1, none⟩ (.int .i64 cf)).setCell ⟨ab, 2, none⟩ (.int .i64 cp)).setCell ⟨ab, 3, none⟩ (.int .i64 cl)).setCell ⟨ab, 4, none⟩ (.int .i64 ct)).setCell ⟨ab, 5, none⟩ (.int .i64 ck)).setCell ⟨ab, 6, none⟩ (.int .i64 cv)).setCell ⟨ab, 7, none⟩ (.string cs)) ab cq cf cp cl ct ck cv cs := ⟨by simp [go_sem, a0], by simp [go_sem, a1], by simp [go_sem, a2], by simp [go_sem, a3], by simp [go_sem, a4], by simp [go_sem, a5], by simp [go_sem, a6], by simp [go_sem, a7]⟩
                refine wpAnyH_ready (rs := [7]) (by kernel_rfl) (by simp) ?_
                refine AllReadyH.cons rfl (fun K hK => ?_) AllReadyH.nil
                go_simp
                refine hK.out _ _ hC2 (fun hHeld => ?_)
                clear hK K hHeld
                try simp only [Act.put]
                try simp only [List.setIfInBounds_toArray]
                try simp only [List.set]
                refine wpAnyH_done (by kernel_rfl) ?_ _
                go_wp2_with fail
                go_meet
                case rel => exact ⟨ab, rfl, hC2, hCel⟩
              · have gg : Below W1.heap.size W1 (W1.alloc (.cells #[.int .i64 0, .int .i64 0, .int .i64 0, .int .i64 0, .int .i64 0, .int .i64 0, .int .i64 0, .string ⟨#[]⟩] 169)) := by go_grown
                have hB : CelOwn (W1.alloc (.cells #[.int .i64 0, .int .i64 0, .int .i64 0, .int .i64 0, .int .i64 0, .int .i64 0, .int .i64 0, .string ⟨#[]⟩] 169)) W1.heap.size := ⟨by simp [go_sem], by simp [go_sem], by simp [go_sem], by simp [go_sem], by simp [go_sem], by simp [go_sem], by simp [go_sem], by simp [go_sem], by simp [go_sem], by simp [go_sem], by simp [go_sem], by simp [go_sem], by simp [go_sem], by simp [go_sem], by simp [go_sem], by simp [go_sem]⟩
                have hab1 : w.heap.size ≤ W1.heap.size := hHeld.g.size
                have hab2 : y < W1.heap.size ∧ b < W1.heap.size := ⟨World.block_lt_of_cell? _ _ hHeld.s0, hHeld.a.lt⟩
                have hab3 : ∀ g, u8.ownBlock = some g → g < W1.heap.size := fun g hg => (hHeld.o.lt g hg).2
                go_simp
                refine hK.out _ _ (hHeld.up gg) (fun hHeld => ?_)
                clear hK K gg
                generalize W1.alloc (.cells #[.int .i64 0, .int .i64 0, .int .i64 0, .int .i64 0, .int .i64 0, .int .i64 0, .int .i64 0, .string ⟨#[]⟩] 169) = W4 at hHeld hB ⊢
                generalize W1.heap.size = ab at hB hab1 hab2 hab3 ⊢
                try simp only [Act.put]
                try simp only [List.setIfInBounds_toArray]
                try simp only [List.set]
                refine wpAnyH_ready (rs := [5]) (by kernel_rfl) (by simp) ?_
                refine AllReadyH.cons rfl (fun K hK => ?_) AllReadyH.nil
                go_simp
                go_wp2_with (go_at_call 190; refine (HUn.out _ hHeld.a).mono ?_; rintro e W5 ⟨rfl, gg⟩)
                refine hK.out _ _ (hHeld.up gg) (fun hHeld => ?_)
                clear hK K
                have hB := hB.below gg (World.block_lt_of_cell? _ _ hB.c0)
                clear gg
                try simp only [Act.put]
                try simp only [List.setIfInBounds_toArray]
                try simp only [List.set]
                have T : Turned ab (ab + 1) W5 ((((((((W5.setCell ⟨ab, 0, none⟩ (.int .i64 cq)).setCell ⟨ab, 1, none⟩ (.int .i64 cf)).setCell ⟨ab, 2, none⟩ (.int .i64 cp)).setCell ⟨ab, 3, none⟩ (.int .i64 cl)).setCell ⟨ab, 4, none⟩ (.int .i64 ct)).setCell ⟨ab, 5, none⟩ (.int .i64 ck)).setCell ⟨ab, 6, none⟩ (.int .i64 cv)).setCell ⟨ab, 7, none⟩ (.string cs)) := ((((((((Turned.refl ab (ab + 1) W5).setCell (p := ⟨ab, 0, none⟩) (Nat.le_refl _) (Nat.lt_succ_self _) _).setCell (p := ⟨ab, 1, none⟩) (Nat.le_refl _) (Nat.lt_succ_self _) _).setCell (p := ⟨ab, 2, none⟩) (Nat.le_refl _) (Nat.lt_succ_self _) _).setCell (p := ⟨ab, 3, none⟩) (Nat.le_refl _) (Nat.lt_succ_self _) _).setCell (p := ⟨ab, 4, none⟩) (Nat.le_refl _) (Nat.lt_succ_self _) _).setCell (p := ⟨ab, 5, none⟩) (Nat.le_refl _) (Nat.lt_succ_self _) _).setCell (p := ⟨ab, 6, none⟩) (Nat.le_refl _) (Nat.lt_succ_self _) _).setCell (p := ⟨ab, 7, none⟩) (Nat.le_refl _) (Nat.lt_succ_self _) _
                have habl : ab < W5.heap.size := World.block_lt_of_cell? _ _ hB.c0
                obtain ⟨a0, a1, a2, a3, a4, a5, a6, a7, f0, f1, f2, f3, f4, f5, f6, f7⟩ := hB
                have hC2 : CuS w ys y b p l u8 xs ((((((((W5.setCell ⟨ab, 0, none⟩ (.int .i64 cq)).setCell ⟨ab, 1, none⟩ (.int .i64 cf)).setCell ⟨ab, 2, none⟩ (.int .i64 cp)).setCell ⟨ab, 3, none⟩ (.int .i64 cl)).setCell ⟨ab, 4, none⟩ (.int .i64 ct)).setCell ⟨ab, 5, none⟩ (.int .i64 ck)).setCell ⟨ab, 6, none⟩ (.int .i64 cv)).setCell ⟨ab, 7, none⟩ (.string cs)) := hHeld.turned T hab1 hab2 hab3
                have hCel : CelAt ((((((((W5.setCell ⟨ab, 0, none⟩ (.int .i64 cq)).setCell ⟨ab, 1, none⟩ (.int .i64 cf)).setCell ⟨ab, 2, none⟩ (.int .i64 cp)).setCell ⟨ab, 3, none⟩ (.int .i64 cl)).setCell ⟨ab, 4, none⟩ (.int .i64 ct)).setCell ⟨ab, 5, none⟩ (.int .i64 ck)).setCell ⟨ab, 6, none⟩ (.int .i64 cv)).setCell ⟨ab, 7, none⟩ (.string cs)) ab cq cf cp cl ct ck cv cs := ⟨by simp [go_sem, a0], by simp [go_sem, a1], by simp [go_sem, a2], by simp [go_sem, a3], by simp [go_sem, a4], by simp [go_sem, a5], by simp [go_sem, a6], by simp [go_sem, a7]⟩
                refine wpAnyH_ready (rs := [7]) (by kernel_rfl) (by simp) ?_
                refine AllReadyH.cons rfl (fun K hK => ?_) AllReadyH.nil
                go_simp
                refine hK.out _ _ hC2 (fun hHeld => ?_)
                clear hK K hHeld
                try simp only [Act.put]
                try simp only [List.setIfInBounds_toArray]
                try simp only [List.set]
                refine wpAnyH_done (by kernel_rfl) ?_ _
                go_wp2_with fail
                go_meet
                case rel => exact ⟨ab, rfl, hC2, hCel⟩
            · have gg : Below D.heap.size D (D.alloc (.cells #[.int .i64 0, .int .i64 0, .int .i64 0, .int .i64 0, .int .i64 0, .int .i64 0, .int .i64 0, .string ⟨#[]⟩] 169)) := by go_grown
              have hB : CelOwn (D.alloc (.cells #[.int .i64 0, .int .i64 0, .int .i64 0, .int .i64 0, .int .i64 0, .int .i64 0, .int .i64 0, .string ⟨#[]⟩] 169)) D.heap.size := ⟨by simp [go_sem], by simp [go_sem], by simp [go_sem], by simp [go_sem], by simp [go_sem], by simp [go_sem], by simp [go_sem], by simp [go_sem], by simp [go_sem], by simp [go_sem], by simp [go_sem], by simp [go_sem], by simp [go_sem], by simp [go_sem], by simp [go_sem], by simp [go_sem]⟩
              have hab1 : w.heap.size ≤ D.heap.size := hHeld.g.size
              have hab2 : y < D.heap.size ∧ b < D.heap.size := ⟨World.block_lt_of_cell? _ _ hHeld.s0, hHeld.a.lt⟩
              have hab3 : ∀ g, u8.ownBlock = some g → g < D.heap.size := fun g hg => (hHeld.o.lt g hg).2
              go_simp
              refine hK.out _ _ (hHeld.up gg) (fun hHeld => ?_)
              clear hK K gg
              generalize D.alloc (.cells #[.int .i64 0, .int .i64 0, .int .i64 0, .int .i64 0, .int .i64 0, .int .i64 0, .int .i64 0, .string ⟨#[]⟩] 169) = W6 at hHeld hB ⊢
              generalize D.heap.size = ab at hB hab1 hab2 hab3 ⊢
              try simp only [Act.put]
              try simp only [List.setIfInBounds_toArray]
              try simp only [List.set]
              refine wpAnyH_ready (rs := [3]) (by kernel_rfl) (by simp) ?_
              refine AllReadyH.cons rfl (fun K hK => ?_) AllReadyH.nil
              go_simp
              go_wp2_with (go_at_call 191; refine (spanEnd_any p l _ (by omega) (by omega)).mono ?_; rintro e W7 ⟨rfl, gg⟩; rw [HQ.out])
              refine hK.out _ _ (hHeld.up gg) (fun hHeld => ?_)
              clear hK K
              have hB := hB.below gg (World.block_lt_of_cell? _ _ hB.c0)
              clear gg
              try simp only [Act.put]
              try simp only [List.setIfInBounds_toArray]
              try simp only [List.set]
              refine wpAnyH_take (i := 4) (v := ?v5) rfl (by kernel_rfl) (by kernel_rfl) (by kernel_rfl) (fun _ _ _ h => h) (Or.inl ⟨by kernel_rfl, ?h5⟩) hHeld ?_
              case h5 => intro u hSw; (try dsimp only at hSw); go_simp; try with_reducible rfl
              try simp only [List.getElem_toArray]
              try simp only [List.getElem_cons_succ]
              try simp only [List.getElem_cons_zero]
              try simp only [Act.put]
              try simp only [List.setIfInBounds_toArray]
              try simp only [List.set]
              refine wpAnyH_ready (rs := [5]) (by kernel_rfl) (by simp) ?_
              refine AllReadyH.cons rfl (fun K hK => ?_) AllReadyH.nil
              go_simp
              go_wp2_with (go_at_call 190; refine (HUn.out _ hHeld.a).mono ?_; rintro e W8 ⟨rfl, gg⟩)
              refine hK.out _ _ (hHeld.up gg) (fun hHeld => ?_)
              clear hK K
              have hB := hB.below gg (World.block_lt_of_cell? _ _ hB.c0)
              clear gg
              try simp only [Act.put]
              try simp only [List.setIfInBounds_toArray]
              try simp only [List.set]
              have T : Turned ab (ab + 1) W8 ((((((((W8.setCell ⟨ab, 0, none⟩ (.int .i64 cq)).setCell ⟨ab, 1, none⟩ (.int .i64 cf)).setCell ⟨ab, 2, none⟩ (.int .i64 cp)).setCell ⟨ab, 3, none⟩ (.int .i64 cl)).setCell ⟨ab, 4, none⟩ (.int .i64 ct)).setCell ⟨ab, 5, none⟩ (.int .i64 ck)).setCell ⟨ab, 6, none⟩ (.int .i64 cv)).setCell ⟨ab, 7, none⟩ (.string cs)) := ((((((((Turned.refl ab (ab + 1) W8).setCell (p := ⟨ab, 0, none⟩) (Nat.le_refl _) (Nat.lt_succ_self _) _).setCell (p := ⟨ab, 1, none⟩) (Nat.le_refl _) (Nat.lt_succ_self _) _).setCell (p := ⟨ab, 2, none⟩) (Nat.le_refl _) (Nat.lt_succ_self _) _).setCell (p := ⟨ab, 3, none⟩) (Nat.le_refl _) (Nat.lt_succ_self _) _).setCell (p := ⟨ab, 4, none⟩) (Nat.le_refl _) (Nat.lt_succ_self _) _).setCell (p := ⟨ab, 5, none⟩) (Nat.le_refl _) (Nat.lt_succ_self _) _).setCell (p := ⟨ab, 6, none⟩) (Nat.le_refl _) (Nat.lt_succ_self _) _).setCell (p := ⟨ab, 7, none⟩) (Nat.le_refl _) (Nat.lt_succ_self _) _
              have habl : ab < W8.heap.size := World.block_lt_of_cell? _ _ hB.c0
              obtain ⟨a0, a1, a2, a3, a4, a5, a6, a7, f0, f1, f2, f3, f4, f5, f6, f7⟩ := hB
              have hC2 : CuS w ys y b p l u8 xs ((((((((W8.setCell ⟨ab, 0, none⟩ (.int .i64 cq)).setCell ⟨ab, 1, none⟩ (.int .i64 cf)).setCell ⟨ab, 2, none⟩ (.int .i64 cp)).setCell ⟨ab, 3, none⟩ (.int .i64 cl)).setCell ⟨ab, 4, none⟩ (.int .i64 ct)).setCell ⟨ab, 5, none⟩ (.int .i64 ck)).setCell ⟨ab, 6, none⟩ (.int .i64 cv)).setCell ⟨ab, 7, none⟩ (.string cs)) := hHeld.turned T hab1 hab2 hab3
              have hCel : CelAt ((((((((W8.setCell ⟨ab, 0, none⟩ (.int .i64 cq)).setCell ⟨ab, 1, none⟩ (.int .i64 cf)).setCell ⟨ab, 2, none⟩ (.int .i64 cp)).setCell ⟨ab, 3, none⟩ (.int .i64 cl)).setCell ⟨ab, 4, none⟩ (.int .i64 ct)).setCell ⟨ab, 5, none⟩ (.int .i64 ck)).setCell ⟨ab, 6, none⟩ (.int .i64 cv)).setCell ⟨ab, 7, none⟩ (.string cs)) ab cq cf cp cl ct ck cv cs := ⟨by simp [go_sem, a0], by simp [go_sem, a1], by simp [go_sem, a2], by simp [go_sem, a3], by simp [go_sem, a4], by simp [go_sem, a5], by simp [go_sem, a6], by simp [go_sem, a7]⟩
              refine wpAnyH_ready (rs := [7]) (by kernel_rfl) (by simp) ?_
              refine AllReadyH.cons rfl (fun K hK => ?_) AllReadyH.nil
              go_simp
              refine hK.out _ _ hC2 (fun hHeld => ?_)
              clear hK K hHeld
              try simp only [Act.put]
              try simp only [List.setIfInBounds_toArray]
              try simp only [List.set]
              refine wpAnyH_done (by kernel_rfl) ?_ _
              go_wp2_with fail
              go_meet
              case rel => exact ⟨ab, rfl, hC2, hCel⟩
          case rest =>
            clear hC
            obtain ⟨ab, rfl, hC, hCel⟩ := hcut
            obtain ⟨c0, c1, c2, c3, c4, c5, c6, c7⟩ := hCel
            rcases hcq with rfl | rfl
            · have HB2 : Hid (badTo ys (k + 1) = false) := by show _ = _; simp only [badTo, hbad.out, HB.out, HU.out]; simp
              have hxl : xs.length ≤ 64 := by have := cellsTo_len pn ys k; rw [HX.out] at this; omega
              obtain ⟨i0, hi0, hz0, hz1, hz2⟩ := infoP
              go_wp2_with (at_builtin; refine wpList_append_own_at _ rfl _ _ 206 rfl w.heap.size 252 i0 (.agg #[.int .i64 0, .int .i64 0, .int .i64 0, .int .i64 0, .int .i64 0, .int .i64 0, .int .i64 0, .int .i64 0, .int .i64 0, .string ⟨#[]⟩]) 10 88 Try.underlying206 hi0 hz0 hz1 hz2 rfl (by decide) _ _ _ rfl (ownsRow_below hC.o (by go_grown)) ⟨wc.heap.size, 0, none⟩ 1 1 (spE ⟨pn, k, Cel.mk 0 cf cp cl ct ck cv cs⟩) rfl rfl ?n1 ?n2 ?n3 ?n4 ?n5 ?_)
              case n1 => exact cells_new _ _ _
              case n2 => intro u hu; simp [spE] at hu; rcases hu with rfl | rfl | rfl | rfl | rfl | rfl | rfl | rfl | rfl | rfl <;> rfl
              case n3 => unfold maxLen; omega
              case n4 => omega
              case n5 => have := hC.g.size; simp; omega
              intro v' w' ho' hg' _ _
              have hA1 := hC.a.alloc (.cells #[.int .i64 pn, .int .i64 k, .int .i64 0, .int .i64 cf, .int .i64 cp, .int .i64 cl, .int .i64 ct, .int .i64 ck, .int .i64 cv, .string cs] 252)
              have ho1 := ownsRow_below hC.o (w' := wc.alloc (.cells #[.int .i64 pn, .int .i64 k, .int .i64 0, .int .i64 cf, .int .i64 cp, .int .i64 cl, .int .i64 ct, .int .i64 ck, .int .i64 cv, .string cs] 252)) (by go_grown)
              have hA2 : Arr w' b ys := ⟨hA1.len, (hg'.block b hA1.lt (fun e => ownsRow_ne ho1 hA1.row (by decide) e.symm)).trans hA1.row⟩
              have g2 : Below w.heap.size w w' := Below.grown (hC.g.alloc hC.g.size _) hg' (by have := hC.g.size; simp; omega) (fun k hk => (ho1.lt k hk).1)
              have ho2 : w'.ownsRow w.heap.size 252 10 v' (cellsTo pn ys (k + 1)).length (flat spE (cellsTo pn ys (k + 1))) := by
                rw [HT.out, HU.out, List.length_append, ← flat_snoc]; exact ho'
              clear hA1 ho1 ho' hg' hC c0 c1 c2 c3 c4 c5 c6 c7 hi0 hz0 hz1 hz2
              go_wp2_with fail
              go_roundw
              case rel => exact ⟨k + 1, by omega, by go_num, hA2, g2, ho2, HB2⟩
              case measure => simp [intOf]; omega
            · have HB2 : Hid (badTo ys m = true) := badTo_at (k := k) (by rw [HB.out, HU.out]; rfl) hlt
              have HC2 : Hid (pageC ys = 5) := by show _ = _; rw [HC.out, HM.out, if_pos HB2.out]
              have HL : Hid (pageL pn ys = []) := by show _ = _; unfold pageL; rw [if_neg (by rw [HC2.out]; decide)]
              have g := hC.g
              go_wp2_with fail
              go_quiet (fail)
              go_wp2_with fail
              go_ret2
              exact ⟨.slice none 0 0, by rw [HC2.out]; rfl, below_draws g _, by rw [HL.out]; exact ownsRow_nil _ _ _ _⟩
        · have HT : Hid (cellsTo pn ys (k + 1) = xs) := by show _ = _; simp only [cellsTo, oneC, he, HX.out]; simp
          have HB : Hid (badTo ys (k + 1) = false) := by show _ = _; simp only [badTo, hbad.out, badAt, he]; rfl
          clear he hem
          go_wp2_with fail
          go_roundw
          case rel => exact ⟨k + 1, by omega, by go_num, hC.a, hC.g, by rw [HT.out]; exact hC.o, HB⟩
          case measure => simp [intOf]; omega
      · have e : k = m := by omega
        subst e
        have HC2 : Hid (pageC ys = 0) := by show _ = _; rw [HC.out, HM.out, if_neg (by rw [hbad.out]; decide)]
        have HL : Hid (pageL pn ys = cellsTo pn ys k) := by show _ = _; unfold pageL; rw [if_pos HC2.out, HM.out]
        go_wp2_with fail
        go_ret2
        exact ⟨_, by rw [HC2.out]; rfl, g, by rw [HL.out]; exact ho⟩
  · have HC : Hid (pageC zs = fltOf zs) := by show _ = _; unfold pageC; rw [if_neg hq]
    have HL : Hid (pageL pn zs = []) := by show _ = _; unfold pageL; rw [if_neg (by rw [HC.out]; exact hq)]
    obtain ⟨f, hf⟩ : ∃ f, f = fltOf zs := ⟨_, rfl⟩
    rw [← hf] at hq ⊢
    have HC : Hid (pageC zs = f) := by rw [hf]; exact HC
    have df : (f != 0) = true := by simpa using hq
    clear hf
    go_wp2_with fail
    go_ret2
    exact ⟨.slice none 0 0, by rw [HC.out]; rfl, g, by rw [HL.out]; exact ownsRow_nil _ _ _ _⟩

end Go.Proofs.Yteebbaleejbodaa
