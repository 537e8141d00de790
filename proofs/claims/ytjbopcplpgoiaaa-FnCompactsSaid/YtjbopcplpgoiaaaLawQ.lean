/-
  The law FnCompacts answers true at all bytes.
-/
import Derived.Test.YtjbopcplpgoiaaaLawM
import Derived.Deep.Cut
namespace Go.Proofs.Ytjbopcplpgoiaaa
open Go.RowKit
set_option linter.unusedVariables false

/-- What the law carries where the page was compacted. -/
structure CoS (w : World) (T B : Nat) (a pa a' : Option Addr) (d' : Nat) (f : Int) (xs ys zs : List Int) (V : World) : Prop where
  t0 : V.cell? ⟨T, 0, none⟩ = some (.int .i64 0)
  t1 : V.cell? ⟨T, 1, none⟩ = some (.int .i64 0)
  t2 : V.cell? ⟨T, 2, none⟩ = some (.slice a' 64 d')
  b0 : V.cell? ⟨B, 0, none⟩ = some (.int .i64 0)
  b1 : V.cell? ⟨B, 1, none⟩ = some (.int .i64 f)
  rx : Reads V a xs
  ra : Reads V pa ys
  rz : Reads V a' zs
  g : Below w.heap.size w V
theorem CoS.up {w : World} {T B : Nat} {a pa a' : Option Addr} {d' : Nat} {f : Int} {xs ys zs : List Int} {V W : World} (h : CoS w T B a pa a' d' f xs ys zs V) (hb : Below V.heap.size V W) : CoS w T B a pa a' d' f xs ys zs W :=
  ⟨cellUp hb h.t0, cellUp hb h.t1, cellUp hb h.t2, cellUp hb h.b0, cellUp hb h.b1, h.rx.below hb (Nat.le_refl _), h.ra.below hb (Nat.le_refl _), h.rz.below hb (Nat.le_refl _), h.g.trans (hb.mono h.g.size)⟩

/-- .. and the new page. -/
structure CoT (w : World) (T B C : Nat) (a pa a' a8 : Option Addr) (d' d8 : Nat) (f : Int) (xs ys zs ns : List Int) (V : World) : Prop where
  s : CoS w T B a pa a' d' f xs ys zs V
  n2 : V.cell? ⟨C, 2, none⟩ = some (.slice a8 64 d8)
  rn : Reads V a8 ns
theorem CoT.up {w : World} {T B C : Nat} {a pa a' a8 : Option Addr} {d' d8 : Nat} {f : Int} {xs ys zs ns : List Int} {V W : World} (h : CoT w T B C a pa a' a8 d' d8 f xs ys zs ns V) (hb : Below V.heap.size V W) : CoT w T B C a pa a' a8 d' d8 f xs ys zs ns W :=
  ⟨h.s.up hb, cellUp hb h.n2, h.rn.below hb (Nat.le_refl _)⟩

/-- A compacted page takes what there is room for. -/
theorem ps_compact {ys cs : List Int} (h : Fine ys) (h1 : 1 ≤ cs.length) (h20 : cs.length ≤ 20) (hf : cs.length + 2 ≤ freeN (cpP ys (nb ys 0))) (h16 : nb (cpP ys (nb ys 0)) 0 < 16) : psQ (cpP ys (nb ys 0)) cs.length = 0 := by
  have hF := fine_compact h
  have C := cps_all h (nb ys 0) (Nat.le_refl _)
  have hB := both_all h (nb ys 0) (Nat.le_refl _)
  have hlow := hB.low
  have hfr := free_compact h
  unfold psQ
  rw [hF.flt, if_pos rfl, if_pos (by simp [inR]; omega)]
  have h0 : nb (cpP ys (nb ys 0)) 0 = nb ys 0 := C.h0
  have hm : 2 * putM (cpP ys (nb ys 0)) = 2 * nb ys 0 + putMore (cpP ys (nb ys 0)) ∧ putMore (cpP ys (nb ys 0)) ≤ 2 := by
    unfold putM putMore
    rw [h0]
    split <;> omega
  have hfn : freeN ys = 62 - 2 * nb ys 0 - lens ys (nb ys 0) := rfl
  have hsum := h.sum
  unfold putQ
  rw [if_neg (by omega), if_neg (by omega), if_neg (by omega)]

theorem free_new (f : Int) (h0 : 0 ≤ f) (h1 : f ≤ 255) : freeV (newBytes f) = .agg #[.int .i64 0, .int .i64 62] := by
  unfold freeV freeOf
  rw [(fine_new f h0 h1).flt, if_pos rfl]
  rfl

theorem zeros_reads {w w' : World} {n : Nat} (h : w'.ownsRow w.heap.size 5 1 (.slice (some ⟨w.heap.size, 0, none⟩) n n) n (madeCells (Value.int .u8 0).cells (n * 1)).toList) : Reads w' (some ⟨w.heap.size, 0, none⟩) (List.replicate n 0) := by
  refine .inr ⟨w.heap.size, 0, rfl, fun i hi => ?_⟩
  rw [List.length_replicate] at hi
  rw [Nat.zero_add, h.cellAt i (by omega), Nat.mul_one]
  have := made_zero n i hi
  rw [show (Value.int .u8 0).cells = #[Value.int .u8 0] from rfl, this]
  simp [List.getD, hi]

set_option maxRecDepth 20000 in
set_option maxHeartbeats 4000000 in
theorem lawCompacts_fits (a : Option Addr) (n c : Nat) (xs : List Int) (w : World) (rd : Reads w a xs) (hn : xs.length = n) (hm : n ≤ 1048576) (hz : ∀ z ∈ xs, 0 ≤ z ∧ z ≤ 255) :
    Calls Try.prog 4 #[.slice a n c] w fun e w' => e = .returned (.bool true) ∧ Below w.heap.size w w' := by
  have HD : Hid (∀ W : World, Reads W a xs → Calls Try.prog 25 #[.slice a n c] W fun e w' => (∃ f : Int, e = .returned (.int .u8 f) ∧ 0 ≤ f ∧ f ≤ 255) ∧ Below W.heap.size W w') := fun W h => drawNewPage_any a n c xs W h hn hm hz
  go_enter Try.func4, Try.ntmps4
  go_wp2_with fail
  refine (lwBig_small a n c _ hm).mono ?_
  rintro e w0 ⟨rfl, h0⟩
  rw [h0]
  clear h0 w0
  go_wp2_with fail
  refine (drawCompactPage_any a n c xs _ rd hn hm hz).mono ?_
  rintro e w1 ⟨v, rfl, ⟨pg, po, m, d, ys, rfl, k1, k2, hm64, hmd, k5, hyb⟩, g1⟩
  have ra := k5.reads
  have rx := rd.below g1 (Nat.le_refl _)
  have hm64 : m ≤ 1048576 := by omega
  have HN : Hid (ys.length = m) := k1
  have HB : Hid (∀ z ∈ ys, 0 ≤ z ∧ z ≤ 255) := hyb
  generalize hpa : (some ⟨pg, po, none⟩ : Option Addr) = pa at ra ⊢
  clear hpa rd hn hm hz k5 k2 k1
  go_wp2_with fail
  refine (implCompactPage_any pa ys m d _ HN.out hm64 hmd ra HB.out).mono ?_
  rintro e w2 ⟨a', d', rfl, hd', g2, y2⟩
  have g : Below w.heap.size w w2 := g1.trans (g2.mono g1.size)
  have ra := ra.below g2 (Nat.le_refl _)
  have rx := rx.below g2 (Nat.le_refl _)
  have rz := y2.reads
  clear g1 g2 y2
  obtain ⟨q, hq⟩ : ∃ q, q = cqQ ys := ⟨_, rfl⟩
  have HQ : Hid (cqQ ys = q) := hq.symm
  rw [← hq]
  by_cases hq0 : q ≠ 0
  · have dq : (q != 0) = true := by simpa using hq0
    obtain ⟨fo, hfo⟩ : ∃ fo, fo = freeOf ys := ⟨_, rfl⟩
    have HFo : Hid (freeV ys = .agg #[.int .i64 q, .int .i64 fo]) := by show _ = _; rw [hq, hfo]; rfl
    clear hq hyb rz hd' hq0 hfo HD rx
    generalize (cqB ys).length = l2
    go_upto_region 5 with (fail)
    have hP : PAt (w2.alloc (.cells #[.int .i64 q, .int .i64 0, .slice a' l2 d'] 27)) w2.heap.size q 0 a' l2 d' := ⟨by simp [go_sem], by simp [go_sem], by simp [go_sem]⟩
    have gW := g.alloc g.size (.cells #[.int .i64 q, .int .i64 0, .slice a' l2 d'] 27)
    have ra := ra.below (B := w2.heap.size) (w' := w2.alloc (.cells #[.int .i64 q, .int .i64 0, .slice a' l2 d'] 27)) (by go_grown) (Nat.le_refl _)
    generalize w2.alloc (.cells #[.int .i64 q, .int .i64 0, .slice a' l2 d'] 27) = W at hP gW ra ⊢
    generalize w2.heap.size = T at hP ⊢
    clear g
    have hP' := hP
    obtain ⟨p0, p1, p2⟩ := hP'
    go_wp2_with fail
    clear p0 p1 p2
    refine wp_region_held_drew (S := fun V => PAt V T q 0 a' l2 d' ∧ Reads V pa ys) (by kernel_rfl) ⟨hP.below (Below.refl _ _).drew, ra.below (Below.refl _ _).drew (Nat.le_refl _)⟩ (fun hHeld => ?_)
    have gD : Below w.heap.size w W.drew := gW.drew
    generalize W.drew = D at hHeld gD ⊢
    clear hP gW ra
    refine wpAnyH_take (i := 0) (v := ?v1) rfl (by kernel_rfl) (by kernel_rfl) (by kernel_rfl) (fun _ _ _ h => h) (Or.inl ⟨by kernel_rfl, ?h1⟩) hHeld ?_
    case h1 => intro u hSw; (try dsimp only at hSw); go_simp; try with_reducible rfl
    try simp only [List.getElem_toArray]
    try simp only [List.getElem_cons_succ]
    try simp only [List.getElem_cons_zero]
    try simp only [Act.put]
    try simp only [List.setIfInBounds_toArray]
    try simp only [List.set]
    refine wpAnyH_take (i := 3) (v := ?v2) rfl (by kernel_rfl) (by kernel_rfl) (by kernel_rfl) (fun _ _ _ h => h) (Or.inl ⟨by kernel_rfl, ?h2⟩) hHeld ?_
    case h2 => intro u hSw; (try dsimp only at hSw); go_simp; try with_reducible rfl
    try simp only [List.getElem_toArray]
    try simp only [List.getElem_cons_succ]
    try simp only [List.getElem_cons_zero]
    try simp only [Act.put]
    try simp only [List.setIfInBounds_toArray]
    try simp only [List.set]
    refine wpAnyH_take (i := 4) (v := ?v3) rfl (by kernel_rfl) (by kernel_rfl) (by kernel_rfl) (fun _ _ _ h => h) (Or.inl ⟨by kernel_rfl, ?h3⟩) hHeld ?_
    case h3 => intro u hSw; obtain ⟨t0, t1, t2⟩ := hSw.1; clear hSw; go_simp; try with_reducible rfl
    try simp only [List.getElem_toArray]
    try simp only [List.getElem_cons_succ]
    try simp only [List.getElem_cons_zero]
    try simp only [Act.put]
    try simp only [List.setIfInBounds_toArray]
    try simp only [List.set]
    refine wpAnyH_ready (rs := [1]) (by kernel_rfl) (by simp) ?_
    refine AllReadyH.cons rfl (fun K hK => ?_) AllReadyH.nil
    go_simp
    go_wp2_with (go_at_call 24; refine (specCompactPage_any pa ys m d _ HN.out hm64 hmd hHeld.2 HB.out).mono ?_; rintro e w' ⟨a9, d9, rfl, hb, _⟩; rw [HQ.out])
    refine hK.out _ _ (⟨hHeld.1.below hb, hHeld.2.below hb (Nat.le_refl _)⟩) (fun hHeld => ?_)
    clear hK K
    have gD := gD.trans (hb.mono gD.size)
    clear hb
    try simp only [Act.put]
    try simp only [List.setIfInBounds_toArray]
    try simp only [List.set]
    refine wpAnyH_take (i := 2) (v := ?v4) rfl (by kernel_rfl) (by kernel_rfl) (by kernel_rfl) (fun _ _ _ h => h) (Or.inl ⟨by kernel_rfl, ?h4⟩) hHeld ?_
    case h4 => intro u hSw; have hfd := fld27_0 q 0 (.slice a9 (cqB ys).length d9) u; go_simp; try with_reducible rfl
    try simp only [List.getElem_toArray]
    try simp only [List.getElem_cons_succ]
    try simp only [List.getElem_cons_zero]
    try simp only [Act.put]
    try simp only [List.setIfInBounds_toArray]
    try simp only [List.set]
    refine wpAnyH_take (i := 5) (v := ?v5) rfl (by kernel_rfl) (by kernel_rfl) (by kernel_rfl) (fun _ _ _ h => h) (Or.inl ⟨by kernel_rfl, ?h5⟩) hHeld ?_
    case h5 => intro u hSw; (try dsimp only at hSw); go_simp; try with_reducible rfl
    try simp only [List.getElem_toArray]
    try simp only [List.getElem_cons_succ]
    try simp only [List.getElem_cons_zero]
    try simp only [Act.put]
    try simp only [List.setIfInBounds_toArray]
    try simp only [List.set]
    refine wpAnyH_take (i := 6) (v := ?v6) rfl (by kernel_rfl) (by kernel_rfl) (by kernel_rfl) (fun _ _ _ h => h) (Or.inl ⟨by kernel_rfl, ?h6⟩) hHeld ?_
    case h6 => intro u hSw; (try dsimp only at hSw); go_simp; try with_reducible rfl
    try simp only [List.getElem_toArray]
    try simp only [List.getElem_cons_succ]
    try simp only [List.getElem_cons_zero]
    try simp only [Act.put]
    try simp only [List.setIfInBounds_toArray]
    try simp only [List.set]
    refine wpAnyH_take (i := 7) (v := ?v7) rfl (by kernel_rfl) (by kernel_rfl) (by kernel_rfl) (fun _ _ _ h => h) (Or.inl ⟨by kernel_rfl, ?h7⟩) hHeld ?_
    case h7 => intro u hSw; (try dsimp only at hSw); go_simp; try with_reducible rfl
    try simp only [List.getElem_toArray]
    try simp only [List.getElem_cons_succ]
    try simp only [List.getElem_cons_zero]
    try simp only [Act.put]
    try simp only [List.setIfInBounds_toArray]
    try simp only [List.set]
    refine wpAnyH_take (i := 10) (v := ?v8) rfl (by kernel_rfl) (by kernel_rfl) (by kernel_rfl) (fun _ _ _ h => h) (Or.inl ⟨by kernel_rfl, ?h8⟩) hHeld ?_
    case h8 => intro u hSw; (try dsimp only at hSw); go_simp; try with_reducible rfl
    try simp only [List.getElem_toArray]
    try simp only [List.getElem_cons_succ]
    try simp only [List.getElem_cons_zero]
    try simp only [Act.put]
    try simp only [List.setIfInBounds_toArray]
    try simp only [List.set]
    refine wpAnyH_take (i := 11) (v := ?v9) rfl (by kernel_rfl) (by kernel_rfl) (by kernel_rfl) (fun _ _ _ h => h) (Or.inl ⟨by kernel_rfl, ?h9⟩) hHeld ?_
    case h9 => intro u hSw; obtain ⟨t0, t1, t2⟩ := hSw.1; clear hSw; go_simp; try with_reducible rfl
    try simp only [List.getElem_toArray]
    try simp only [List.getElem_cons_succ]
    try simp only [List.getElem_cons_zero]
    try simp only [Act.put]
    try simp only [List.setIfInBounds_toArray]
    try simp only [List.set]
    refine wpAnyH_ready (rs := [8]) (by kernel_rfl) (by simp) ?_
    refine AllReadyH.cons rfl (fun K hK => ?_) AllReadyH.nil
    go_simp
    go_wp2_with (go_at_call 18; refine (implFreeIn_any pa ys m d _ HN.out hm64 hmd hHeld.2 HB.out).mono ?_; rintro e w' ⟨rfl, hb⟩; rw [HFo.out])
    refine hK.out _ _ (⟨hHeld.1.below hb, hHeld.2.below hb (Nat.le_refl _)⟩) (fun hHeld => ?_)
    clear hK K
    have gD := gD.trans (hb.mono gD.size)
    clear hb
    try simp only [Act.put]
    try simp only [List.setIfInBounds_toArray]
    try simp only [List.set]
    refine wpAnyH_take (i := 9) (v := ?v10) rfl (by kernel_rfl) (by kernel_rfl) (by kernel_rfl) (fun _ _ _ h => h) (Or.inl ⟨by kernel_rfl, ?h10⟩) hHeld ?_
    case h10 => intro u hSw; have hfd := fld33_0 q fo u; go_simp; try with_reducible rfl
    try simp only [List.getElem_toArray]
    try simp only [List.getElem_cons_succ]
    try simp only [List.getElem_cons_zero]
    try simp only [Act.put]
    try simp only [List.setIfInBounds_toArray]
    try simp only [List.set]
    refine wpAnyH_take (i := 12) (v := ?v11) rfl (by kernel_rfl) (by kernel_rfl) (by kernel_rfl) (fun _ _ _ h => h) (Or.inl ⟨by kernel_rfl, ?h11⟩) hHeld ?_
    case h11 => intro u hSw; (try dsimp only at hSw); go_simp; try with_reducible rfl
    try simp only [List.getElem_toArray]
    try simp only [List.getElem_cons_succ]
    try simp only [List.getElem_cons_zero]
    try simp only [Act.put]
    try simp only [List.setIfInBounds_toArray]
    try simp only [List.set]
    refine wpAnyH_take (i := 13) (v := ?v12) rfl (by kernel_rfl) (by kernel_rfl) (by kernel_rfl) (fun _ _ _ h => h) (Or.inl ⟨by kernel_rfl, ?h12⟩) hHeld ?_
    case h12 => intro u hSw; (try dsimp only at hSw); go_simp; try with_reducible rfl
    try simp only [List.getElem_toArray]
    try simp only [List.getElem_cons_succ]
    try simp only [List.getElem_cons_zero]
    try simp only [Act.put]
    try simp only [List.setIfInBounds_toArray]
    try simp only [List.set]
    refine wpAnyH_take (i := 14) (v := ?v13) rfl (by kernel_rfl) (by kernel_rfl) (by kernel_rfl) (fun _ _ _ h => h) (Or.inl ⟨by kernel_rfl, ?h13⟩) hHeld ?_
    case h13 => intro u hSw; (try dsimp only at hSw); go_simp; try with_reducible rfl
    try simp only [List.getElem_toArray]
    try simp only [List.getElem_cons_succ]
    try simp only [List.getElem_cons_zero]
    try simp only [Act.put]
    try simp only [List.setIfInBounds_toArray]
    try simp only [List.set]
    refine wpAnyH_done (by kernel_rfl) ?_ _
    go_wp2_with fail
    go_ret
    exact ⟨rfl, gD⟩
  · have hq1 : q = 0 := by omega
    subst hq1
    clear hq0
    have hF := fine_of hyb hq.symm
    have hFz := fine_compact hF
    have hfc := free_compact hF
    have htw := compact_twice hF (nb ys 0) (Nat.le_refl _)
    have hC0 := (cps_all hF (nb ys 0) (Nat.le_refl _)).h0
    have hcb : cqB ys = cpP ys (nb ys 0) := by unfold cqB; rw [if_pos hF.flt]
    rw [hcb] at hd' rz
    rw [hcb]
    have hput := fun (cs : List Int) h1 h20 hf h16 => ps_compact (cs := cs) hF h1 h20 hf h16
    have hsl := fun i => slots_compact hF i
    obtain ⟨zs, hzv⟩ : ∃ zs, zs = cpP ys (nb ys 0) := ⟨_, rfl⟩
    rw [← hzv] at hd' rz hFz hfc hput hsl hC0 htw ⊢
    obtain ⟨f, hfv⟩ : ∃ f : Int, f = (freeN zs : Int) := ⟨_, rfl⟩
    have hfb : 0 ≤ f ∧ f ≤ 62 := by rw [hfv]; unfold freeN; omega
    obtain ⟨hfb0, hfb1⟩ := hfb
    have HF1 : Hid (freeV ys = .agg #[.int .i64 0, .int .i64 f]) := by show _ = _; unfold freeV freeOf; rw [hF.flt, if_pos rfl, hfv, hfc]
    have HF2 : Hid (freeV zs = .agg #[.int .i64 0, .int .i64 f]) := by show _ = _; unfold freeV freeOf; rw [hFz.flt, if_pos rfl, hfv]
    have hw2 : IntKind.i64.wrap (f - 2) = f - 2 := by rw [IntKind.wrap_i64]; omega
    have HFl : Hid (fltOf zs = 0) := hFz.flt
    have HE : Hid (∀ i : Nat, i < 16 → (i : Int) ≠ -1 → slotQ ys i = slotQ zs i ∧ slotB ys i = slotB zs i) := fun i _ _ => hsl i
    have HZ : Hid (zs.length = 64) := hFz.pg.len
    have HZB : Hid (∀ z ∈ zs, 0 ≤ z ∧ z ≤ 255) := hFz.pg.bd
    have HCC : Hid (cqQ zs = 0 ∧ cqB zs = zs) := ⟨hFz.flt, by unfold cqB; rw [if_pos hFz.flt, hC0]; exact htw⟩
    obtain ⟨k0, hk0⟩ : ∃ k0, k0 = nb zs 0 := ⟨_, rfl⟩
    have HK0 : Hid (byt zs 0 = (k0 : Int)) := by show _ = _; rw [nb_byt hFz.pg, hk0]
    have hk255 : k0 ≤ 255 := by rw [hk0]; exact nb_lt hFz.pg 0
    have HP : Hid (∀ n1 : Nat, 1 ≤ n1 → n1 ≤ 20 → (n1 : Int) ≤ f - 2 → k0 < 16 → psQ zs n1 = 0) := fun n1 h1 h2 h3 h4 => by
      have := hput (List.replicate n1 0) (by simp; omega) (by simp; omega) (by simp; omega) (by omega)
      simpa using this
    rw [HZ.out] at hd' ⊢
    obtain ⟨zb, zo, rfl, hzc⟩ : ∃ zb zo, a' = some ⟨zb, zo, none⟩ ∧ True := by
      rcases rz with h | ⟨b, o, h, _⟩
      · have := HZ.out; rw [h] at this; cases this
      · exact ⟨b, o, h, trivial⟩
    clear hq hF hFz hfc htw hcb hput hsl hzv hfv hyb hC0 hk0 hzc
    go_upto_region 5 with (fail)
    have hP : PAt (w2.alloc (.cells #[.int .i64 0, .int .i64 0, .slice (some ⟨zb, zo, none⟩) 64 d'] 27)) w2.heap.size 0 0 (some ⟨zb, zo, none⟩) 64 d' := ⟨by simp [go_sem], by simp [go_sem], by simp [go_sem]⟩
    have gA : Below w2.heap.size w2 (w2.alloc (.cells #[.int .i64 0, .int .i64 0, .slice (some ⟨zb, zo, none⟩) 64 d'] 27)) := by go_grown
    have gW := g.trans (gA.mono g.size)
    have ra := ra.below gA (Nat.le_refl _)
    have rx := rx.below gA (Nat.le_refl _)
    have rz := rz.below gA (Nat.le_refl _)
    generalize w2.alloc (.cells #[.int .i64 0, .int .i64 0, .slice (some ⟨zb, zo, none⟩) 64 d'] 27) = W at hP gW ra rx rz ⊢
    generalize w2.heap.size = T at hP ⊢
    clear g gA
    have hP' := hP
    obtain ⟨p0, p1, p2⟩ := hP'
    go_wp2_with fail
    refine (implFreeIn_any _ zs 64 d' _ HZ.out (by omega) hd' rz HZB.out).mono ?_
    rintro e w3 ⟨rfl, g3⟩
    rw [HF2.out]
    have gW := gW.trans (g3.mono gW.size)
    have ra := ra.below g3 (Nat.le_refl _)
    have rx := rx.below g3 (Nat.le_refl _)
    have rz := rz.below g3 (Nat.le_refl _)
    have hP := hP.below g3
    clear p0 p1 p2 g3 HF2
    go_upto_region 10 with (fail)
    have gA : Below w3.heap.size w3 (w3.alloc (.cells #[.int .i64 0, .int .i64 f] 33)) := by go_grown
    have hHeld : CoS w T w3.heap.size a pa (some ⟨zb, zo, none⟩) d' f xs ys zs (w3.alloc (.cells #[.int .i64 0, .int .i64 f] 33)) :=
      ⟨cellUp gA hP.c0, cellUp gA hP.c1, cellUp gA hP.c2, by simp [go_sem], by simp [go_sem], rx.below gA (Nat.le_refl _), ra.below gA (Nat.le_refl _), rz.below gA (Nat.le_refl _), gW.trans (gA.mono gW.size)⟩
    generalize w3.alloc (.cells #[.int .i64 0, .int .i64 f] 33) = W3 at hHeld ⊢
    generalize w3.heap.size = B at hHeld ⊢
    clear gA gW ra rx rz hP
    obtain ⟨t0, t1, t2, b0, b1⟩ : W3.cell? ⟨T, 0, none⟩ = some (.int .i64 0) ∧ W3.cell? ⟨T, 1, none⟩ = some (.int .i64 0) ∧ W3.cell? ⟨T, 2, none⟩ = some (.slice (some ⟨zb, zo, none⟩) 64 d') ∧ W3.cell? ⟨B, 0, none⟩ = some (.int .i64 0) ∧ W3.cell? ⟨B, 1, none⟩ = some (.int .i64 f) := ⟨hHeld.t0, hHeld.t1, hHeld.t2, hHeld.b0, hHeld.b1⟩
    go_upto_region 11 with (fail)
    clear t0 t1 t2 b0 b1
    go_upto_if 43 with (fail)
    obtain ⟨f2, hf2⟩ : ∃ f2, f2 = f - 2 := ⟨_, rfl⟩
    rw [← hf2]
    have HF2' : Hid (f2 = f - 2) := hf2
    clear hf2 hw2
    go_cut [6] from 9 (fun s6 wc => (∃ nn : Int, s6 = .int .i64 nn ∧ nn ≤ 20 ∧ nn ≤ f - 2) ∧ CoS w T B a pa (some ⟨zb, zo, none⟩) d' f xs ys zs wc)
    case first =>
      by_cases h20 : (20 : Int) < f2
      · go_wp2_with fail
        go_meet
        case rel => exact ⟨⟨20, rfl, by omega, by have := HF2'.out; omega⟩, hHeld⟩
      · have h20 : ¬ ((20 : Int) < f2) := h20
        go_wp2_with fail
        go_meet
        case rel => exact ⟨⟨f2, rfl, by omega, by have := HF2'.out; omega⟩, hHeld⟩
    case rest =>
      obtain ⟨⟨nn, rfl, hn20, hnf⟩, hHeld⟩ := hcut
      go_upto_region 13 with (fail)
      go_cut [52] from 9 (fun s52 wc => s52 = .bool (decide (1 ≤ nn ∧ k0 < 16)) ∧ CoS w T B a pa (some ⟨zb, zo, none⟩) d' f xs ys zs wc)
      case first =>
        by_cases h1 : (1 : Int) ≤ nn
        · obtain ⟨t2, z0⟩ : wc.cell? ⟨T, 2, none⟩ = some (.slice (some ⟨zb, zo, none⟩) 64 d') ∧ wc.cell? ⟨zb, zo, none⟩ = some (.int .u8 k0) := by
            refine ⟨hHeld.t2, ?_⟩
            rcases hHeld.rz with h | ⟨b, o, h, hc⟩
            · have := HZ.out; rw [h] at this; cases this
            · simp only [Option.some.injEq, Addr.mk.injEq, and_true] at h
              obtain ⟨rfl, rfl⟩ := h
              have := hc 0 (by have := HZ.out; omega)
              rw [Nat.add_zero] at this
              rw [this, ← HK0.out]
              rfl
          by_cases h16 : k0 < 16
          · have d16 : (k0 : Int) < 16 := by omega
            go_wp2_with fail
            go_meet
            case rel => exact ⟨congrArg Value.bool (decide_eq_true ⟨h1, h16⟩).symm, hHeld⟩
          · have d16 : ¬ ((k0 : Int) < 16) := by omega
            go_wp2_with fail
            go_meet
            case rel => exact ⟨congrArg Value.bool (decide_eq_false (fun h => h16 h.2)).symm, hHeld⟩
        · have h1 : ¬ ((1 : Int) ≤ nn) := h1
          go_wp2_with fail
          go_meet
          case rel => exact ⟨congrArg Value.bool (decide_eq_false (fun h => absurd h.1 (by omega))).symm, hHeld⟩
      case rest =>
       obtain ⟨rfl, hHeld⟩ := hcut
       go_upto_if 52 with (fail)
       go_cut [6] from 9 (fun s6 wc => s6 = .int .i64 nn ∧ CoS w T B a pa (some ⟨zb, zo, none⟩) d' f xs ys zs wc)
       case first =>
         by_cases h11 : 1 ≤ nn ∧ k0 < 16
         · rw [decide_eq_true h11]
           obtain ⟨h1, h16⟩ := h11
           obtain ⟨n1, rfl⟩ : ∃ n1 : Nat, nn = (n1 : Int) := ⟨nn.toNat, by omega⟩
           have HPS : Hid (psQ zs n1 = 0) := HP.out n1 (by omega) (by omega) hnf h16
           have HRB : Hid (∀ z ∈ List.replicate n1 (0 : Int), 0 ≤ z ∧ z ≤ 255) := fun z hz => by rw [List.mem_replicate] at hz; omega
           go_wp2_with fail
           refine wp_region_held_drew (S := fun V => CoS w T B a pa (some ⟨zb, zo, none⟩) d' f xs ys zs V) (by kernel_rfl) (hHeld.up (Below.refl _ _).drew) (fun hHeld => ?_)
           generalize World.drew _ = D at hHeld ⊢
           refine wpAnyH_take (i := 0) (v := ?v14) rfl (by kernel_rfl) (by kernel_rfl) (by kernel_rfl) (fun _ _ _ h => h) (Or.inl ⟨by kernel_rfl, ?h14⟩) hHeld ?_
           case h14 => intro u hSw; (try dsimp only at hSw); go_simp; try with_reducible rfl
           try simp only [List.getElem_toArray]
           try simp only [List.getElem_cons_succ]
           try simp only [List.getElem_cons_zero]
           try simp only [Act.put]
           try simp only [List.setIfInBounds_toArray]
           try simp only [List.set]
           refine wpAnyH_take (i := 1) (v := ?v15) rfl (by kernel_rfl) (by kernel_rfl) (by kernel_rfl) (fun _ _ _ h => h) (Or.inl ⟨by kernel_rfl, ?h15⟩) hHeld ?_
           case h15 => intro u hSw; obtain ⟨t0, t1, t2, b0, b1, _, _, _, _⟩ := hSw; go_simp; try with_reducible rfl
           try simp only [List.getElem_toArray]
           try simp only [List.getElem_cons_succ]
           try simp only [List.getElem_cons_zero]
           try simp only [Act.put]
           try simp only [List.setIfInBounds_toArray]
           try simp only [List.set]
           refine wpAnyH_take (i := 2) (v := ?v16) rfl (by kernel_rfl) (by kernel_rfl) (by kernel_rfl) (fun _ _ _ h => h) (Or.inl ⟨by kernel_rfl, ?h16⟩) hHeld ?_
           case h16 => intro u hSw; (try dsimp only at hSw); go_simp; try with_reducible rfl
           try simp only [List.getElem_toArray]
           try simp only [List.getElem_cons_succ]
           try simp only [List.getElem_cons_zero]
           try simp only [Act.put]
           try simp only [List.setIfInBounds_toArray]
           try simp only [List.set]
           obtain ⟨i0, hi0, hz0, hz1, hz2⟩ := info5
           obtain ⟨wm, hrun, hown, hgr⟩ := run_make_full (P := Try.prog) (w := D) D.heap.size 22 5 i0 (.int .u8 0) 1 Try.underlying22 hi0 hz0 hz1 .i64 .i64 n1 (by rw [hz2]; omega) (by unfold maxLen; omega) (Nat.le_refl _)
           have gm : Below D.heap.size D wm := Below.grown (Below.refl _ _) hgr (Nat.le_refl _) (fun k hk => by cases hk)
           have rm := zeros_reads hown
           clear hi0 hz0 hz1 hz2 hown hgr
           refine wpAnyH_ready (rs := [3]) (by kernel_rfl) (by simp) ?_
           refine AllReadyH.cons rfl (fun K hK => ?_) AllReadyH.nil
           go_simp
           refine hK.out _ _ (hHeld.up gm) (fun hHeld => ?_)
           clear hK K gm hrun
           try simp only [Act.put]
           try simp only [List.setIfInBounds_toArray]
           try simp only [List.set]
           refine wpAnyH_ready (rs := [4]) (by kernel_rfl) (by simp) ?_
           refine AllReadyH.cons rfl (fun K hK => ?_) AllReadyH.nil
           go_simp
           go_wp2_with (go_at_call 15; refine (implPutSlot_any _ zs 64 d' _ (List.replicate n1 0) n1 n1 _ HZ.out (by omega) hd' hHeld.rz HZB.out (List.length_replicate ..) (by omega) rm HRB.out).mono ?_; rintro e w' ⟨a9, d9, rfl, _, hb, _⟩; rw [HPS.out])
           refine hK.out _ _ (hHeld.up hb) (fun hHeld => ?_)
           clear hK K
           clear hb rm
           try simp only [Act.put]
           try simp only [List.setIfInBounds_toArray]
           try simp only [List.set]
           refine wpAnyH_take (i := 5) (v := ?v17) rfl (by kernel_rfl) (by kernel_rfl) (by kernel_rfl) (fun _ _ _ h => h) (Or.inl ⟨by kernel_rfl, ?h17⟩) hHeld ?_
           case h17 => intro u hSw; have hfd := fld27_0 0 (psS zs n1) (.slice a9 (psB zs (List.replicate n1 0)).length d9) u; go_simp; try with_reducible rfl
           try simp only [List.getElem_toArray]
           try simp only [List.getElem_cons_succ]
           try simp only [List.getElem_cons_zero]
           try simp only [Act.put]
           try simp only [List.setIfInBounds_toArray]
           try simp only [List.set]
           refine wpAnyH_take (i := 6) (v := ?v18) rfl (by kernel_rfl) (by kernel_rfl) (by kernel_rfl) (fun _ _ _ h => h) (Or.inl ⟨by kernel_rfl, ?h18⟩) hHeld ?_
           case h18 => intro u hSw; (try dsimp only at hSw); go_simp; try with_reducible rfl
           try simp only [List.getElem_toArray]
           try simp only [List.getElem_cons_succ]
           try simp only [List.getElem_cons_zero]
           try simp only [Act.put]
           try simp only [List.setIfInBounds_toArray]
           try simp only [List.set]
           refine wpAnyH_done (by kernel_rfl) ?_ _
           go_wp2_with fail
           go_meet
           case rel => exact ⟨rfl, hHeld⟩
         · rw [decide_eq_false h11]
           go_wp2_with fail
           go_meet
           case rel => exact ⟨rfl, hHeld⟩
       case rest =>
         obtain ⟨rfl, hHeld⟩ := hcut
         clear HP HK0 hk255 HF2'
         go_wp2_with fail
         refine (HD.out _ hHeld.rx).mono ?_
         rintro e w5 ⟨⟨fl, rfl, fl0, fl1⟩, g5⟩
         have hHeld := hHeld.up g5
         clear g5 HD
         go_wp2_with fail
         refine (implNewPage_any fl _).mono ?_
         rintro e w6 ⟨rfl, g6, hA6⟩
         have hHeld := hHeld.up g6
         have hFn := fine_new fl fl0 fl1
         have HNF : Hid (fltOf (newBytes fl) = 0) := hFn.flt
         have HNB : Hid (∀ z ∈ newBytes fl, 0 ≤ z ∧ z ≤ 255) := hFn.pg.bd
         have HNs : Hid ((newBytes fl).length = 64) := hFn.pg.len
         have HNV : Hid (freeV (newBytes fl) = .agg #[.int .i64 0, .int .i64 62]) := free_new fl fl0 fl1
         have rn : Reads w6 (some ⟨w5.heap.size + 1, 0, none⟩) (newBytes fl) := (hA6.bytes (lo := 0) (hi := w6.heap.size) (Nat.zero_le _) hA6.lt).reads
         generalize newBytes fl = ns at HNF HNB HNs HNV rn
         generalize hnp : (some ⟨w5.heap.size + 1, 0, none⟩ : Option Addr) = a8 at rn ⊢
         clear g6 hA6 hFn fl0 fl1 hnp
         have hd8 : 64 ≤ 64 := Nat.le_refl _
         go_upto_region 18 with (fail)
         generalize hY : World.alloc w6 _ = W6
         have gA : Below w6.heap.size w6 W6 := by rw [← hY]; go_grown
         have hHeld : CoT w T B w6.heap.size a pa (some ⟨zb, zo, none⟩) a8 d' 64 f xs ys zs ns W6 := ⟨hHeld.up gA, by rw [← hY]; simp [go_sem], rn.below gA (Nat.le_refl _)⟩
         clear hY gA rn
         generalize w6.heap.size = C at hHeld ⊢
         refine wp_region_held_drew (S := fun V => CoT w T B C a pa (some ⟨zb, zo, none⟩) a8 d' 64 f xs ys zs ns V) (by kernel_rfl) (hHeld.up (Below.refl _ _).drew) (fun hHeld => ?_)
         generalize World.drew _ = D at hHeld ⊢
         refine wpAnyH_take (i := 0) (v := ?v19) rfl (by kernel_rfl) (by kernel_rfl) (by kernel_rfl) (fun _ _ _ h => h) (Or.inl ⟨by kernel_rfl, ?h19⟩) hHeld ?_
         case h19 => intro u hSw; (try dsimp only at hSw); go_simp; try with_reducible rfl
         try simp only [List.getElem_toArray]
         try simp only [List.getElem_cons_succ]
         try simp only [List.getElem_cons_zero]
         try simp only [Act.put]
         try simp only [List.setIfInBounds_toArray]
         try simp only [List.set]
         refine wpAnyH_take (i := 1) (v := ?v20) rfl (by kernel_rfl) (by kernel_rfl) (by kernel_rfl) (fun _ _ _ h => h) (Or.inl ⟨by kernel_rfl, ?h20⟩) hHeld ?_
         case h20 => intro u hSw; (try dsimp only at hSw); go_simp; try with_reducible rfl
         try simp only [List.getElem_toArray]
         try simp only [List.getElem_cons_succ]
         try simp only [List.getElem_cons_zero]
         try simp only [Act.put]
         try simp only [List.setIfInBounds_toArray]
         try simp only [List.set]
         refine wpAnyH_take (i := 2) (v := ?v21) rfl (by kernel_rfl) (by kernel_rfl) (by kernel_rfl) (fun _ _ _ h => h) (Or.inl ⟨by kernel_rfl, ?h21⟩) hHeld ?_
         case h21 => intro u hSw; obtain ⟨⟨t0, t1, t2, b0, b1, _, _, _, _⟩, n2, _⟩ := hSw; go_simp; try with_reducible rfl
         try simp only [List.getElem_toArray]
         try simp only [List.getElem_cons_succ]
         try simp only [List.getElem_cons_zero]
         try simp only [Act.put]
         try simp only [List.setIfInBounds_toArray]
         try simp only [List.set]
         refine wpAnyH_ready (rs := [3]) (by kernel_rfl) (by simp) ?_
         refine AllReadyH.cons rfl (fun K hK => ?_) AllReadyH.nil
         go_simp
         go_wp2_with (go_at_call 20; refine (lwOthers_any pa _ ys zs m d 64 d' (-1) _ HN.out hm64 hmd hHeld.s.ra HB.out HZ.out (by omega) hd' hHeld.s.rz HZB.out HE.out).mono ?_; rintro e w' ⟨rfl, hb⟩)
         refine hK.out _ _ (hHeld.up hb) (fun hHeld => ?_)
         clear hK K
         try simp only [Act.put]
         try simp only [List.setIfInBounds_toArray]
         try simp only [List.set]
         refine wpAnyH_take (i := 4) (v := ?v22) rfl (by kernel_rfl) (by kernel_rfl) (by kernel_rfl) (fun _ _ _ h => h) (Or.inl ⟨by kernel_rfl, ?h22⟩) hHeld ?_
         case h22 => intro u hSw; (try dsimp only at hSw); go_simp; try with_reducible rfl
         try simp only [List.getElem_toArray]
         try simp only [List.getElem_cons_succ]
         try simp only [List.getElem_cons_zero]
         try simp only [Act.put]
         try simp only [List.setIfInBounds_toArray]
         try simp only [List.set]
         refine wpAnyH_take (i := 5) (v := ?v23) rfl (by kernel_rfl) (by kernel_rfl) (by kernel_rfl) (fun _ _ _ h => h) (Or.inl ⟨by kernel_rfl, ?h23⟩) hHeld ?_
         case h23 => intro u hSw; (try dsimp only at hSw); go_simp; try with_reducible rfl
         try simp only [List.getElem_toArray]
         try simp only [List.getElem_cons_succ]
         try simp only [List.getElem_cons_zero]
         try simp only [Act.put]
         try simp only [List.setIfInBounds_toArray]
         try simp only [List.set]
         refine wpAnyH_take (i := 6) (v := ?v24) rfl (by kernel_rfl) (by kernel_rfl) (by kernel_rfl) (fun _ _ _ h => h) (Or.inl ⟨by kernel_rfl, ?h24⟩) hHeld ?_
         case h24 => intro u hSw; obtain ⟨⟨t0, t1, t2, b0, b1, _, _, _, _⟩, n2, _⟩ := hSw; go_simp; try with_reducible rfl
         try simp only [List.getElem_toArray]
         try simp only [List.getElem_cons_succ]
         try simp only [List.getElem_cons_zero]
         try simp only [Act.put]
         try simp only [List.setIfInBounds_toArray]
         try simp only [List.set]
         refine wpAnyH_take (i := 7) (v := ?v25) rfl (by kernel_rfl) (by kernel_rfl) (by kernel_rfl) (fun _ _ _ h => h) (Or.inl ⟨by kernel_rfl, ?h25⟩) hHeld ?_
         case h25 => intro u hSw; (try dsimp only at hSw); go_simp; try with_reducible rfl
         try simp only [List.getElem_toArray]
         try simp only [List.getElem_cons_succ]
         try simp only [List.getElem_cons_zero]
         try simp only [Act.put]
         try simp only [List.setIfInBounds_toArray]
         try simp only [List.set]
         refine wpAnyH_take (i := 8) (v := ?v26) rfl (by kernel_rfl) (by kernel_rfl) (by kernel_rfl) (fun _ _ _ h => h) (Or.inl ⟨by kernel_rfl, ?h26⟩) hHeld ?_
         case h26 => intro u hSw; (try dsimp only at hSw); go_simp; try with_reducible rfl
         try simp only [List.getElem_toArray]
         try simp only [List.getElem_cons_succ]
         try simp only [List.getElem_cons_zero]
         try simp only [Act.put]
         try simp only [List.setIfInBounds_toArray]
         try simp only [List.set]
         refine wpAnyH_take (i := 9) (v := ?v27) rfl (by kernel_rfl) (by kernel_rfl) (by kernel_rfl) (fun _ _ _ h => h) (Or.inl ⟨by kernel_rfl, ?h27⟩) hHeld ?_
         case h27 => intro u hSw; (try dsimp only at hSw); go_simp; try with_reducible rfl
         try simp only [List.getElem_toArray]
         try simp only [List.getElem_cons_succ]
         try simp only [List.getElem_cons_zero]
         try simp only [Act.put]
         try simp only [List.setIfInBounds_toArray]
         try simp only [List.set]
         refine wpAnyH_take (i := 10) (v := ?v28) rfl (by kernel_rfl) (by kernel_rfl) (by kernel_rfl) (fun _ _ _ h => h) (Or.inl ⟨by kernel_rfl, ?h28⟩) hHeld ?_
         case h28 => intro u hSw; (try dsimp only at hSw); go_simp; try with_reducible rfl
         try simp only [List.getElem_toArray]
         try simp only [List.getElem_cons_succ]
         try simp only [List.getElem_cons_zero]
         try simp only [Act.put]
         try simp only [List.setIfInBounds_toArray]
         try simp only [List.set]
         refine wpAnyH_take (i := 12) (v := ?v29) rfl (by kernel_rfl) (by kernel_rfl) (by kernel_rfl) (fun _ _ _ h => h) (Or.inl ⟨by kernel_rfl, ?h29⟩) hHeld ?_
         case h29 => intro u hSw; (try dsimp only at hSw); go_simp; try with_reducible rfl
         try simp only [List.getElem_toArray]
         try simp only [List.getElem_cons_succ]
         try simp only [List.getElem_cons_zero]
         try simp only [Act.put]
         try simp only [List.setIfInBounds_toArray]
         try simp only [List.set]
         refine wpAnyH_take (i := 11) (v := ?v30) rfl (by kernel_rfl) (by kernel_rfl) (by kernel_rfl) (fun _ _ _ h => h) (Or.inl ⟨by kernel_rfl, ?h30⟩) hHeld ?_
         case h30 => intro u hSw; obtain ⟨⟨t0, t1, t2, b0, b1, _, _, _, _⟩, n2, _⟩ := hSw; go_simp; try with_reducible rfl
         try simp only [List.getElem_toArray]
         try simp only [List.getElem_cons_succ]
         try simp only [List.getElem_cons_zero]
         try simp only [Act.put]
         try simp only [List.setIfInBounds_toArray]
         try simp only [List.set]
         refine wpAnyH_ready (rs := [13]) (by kernel_rfl) (by simp) ?_
         refine AllReadyH.cons rfl (fun K hK => ?_) AllReadyH.nil
         go_simp
         go_wp2_with (go_at_call 18; refine (implFreeIn_any pa ys m d _ HN.out hm64 hmd hHeld.s.ra HB.out).mono ?_; rintro e w' ⟨rfl, hb⟩; rw [HF1.out])
         refine hK.out _ _ (hHeld.up hb) (fun hHeld => ?_)
         clear hK K
         try simp only [Act.put]
         try simp only [List.setIfInBounds_toArray]
         try simp only [List.set]
         refine wpAnyH_take (i := 14) (v := ?v31) rfl (by kernel_rfl) (by kernel_rfl) (by kernel_rfl) (fun _ _ _ h => h) (Or.inl ⟨by kernel_rfl, ?h31⟩) hHeld ?_
         case h31 => intro u hSw; have hfd := fld33_1 0 f u; go_simp; try with_reducible rfl
         try simp only [List.getElem_toArray]
         try simp only [List.getElem_cons_succ]
         try simp only [List.getElem_cons_zero]
         try simp only [Act.put]
         try simp only [List.setIfInBounds_toArray]
         try simp only [List.set]
         refine wpAnyH_take (i := 15) (v := ?v32) rfl (by kernel_rfl) (by kernel_rfl) (by kernel_rfl) (fun _ _ _ h => h) (Or.inl ⟨by kernel_rfl, ?h32⟩) hHeld ?_
         case h32 => intro u hSw; (try dsimp only at hSw); go_simp; try with_reducible rfl
         try simp only [List.getElem_toArray]
         try simp only [List.getElem_cons_succ]
         try simp only [List.getElem_cons_zero]
         try simp only [Act.put]
         try simp only [List.setIfInBounds_toArray]
         try simp only [List.set]
         refine wpAnyH_take (i := 16) (v := ?v33) rfl (by kernel_rfl) (by kernel_rfl) (by kernel_rfl) (fun _ _ _ h => h) (Or.inl ⟨by kernel_rfl, ?h33⟩) hHeld ?_
         case h33 => intro u hSw; (try dsimp only at hSw); go_simp; try with_reducible rfl
         try simp only [List.getElem_toArray]
         try simp only [List.getElem_cons_succ]
         try simp only [List.getElem_cons_zero]
         try simp only [Act.put]
         try simp only [List.setIfInBounds_toArray]
         try simp only [List.set]
         refine wpAnyH_take (i := 17) (v := ?v34) rfl (by kernel_rfl) (by kernel_rfl) (by kernel_rfl) (fun _ _ _ h => h) (Or.inl ⟨by kernel_rfl, ?h34⟩) hHeld ?_
         case h34 => intro u hSw; (try dsimp only at hSw); go_simp; try with_reducible rfl
         try simp only [List.getElem_toArray]
         try simp only [List.getElem_cons_succ]
         try simp only [List.getElem_cons_zero]
         try simp only [Act.put]
         try simp only [List.setIfInBounds_toArray]
         try simp only [List.set]
         refine wpAnyH_take (i := 18) (v := ?v35) rfl (by kernel_rfl) (by kernel_rfl) (by kernel_rfl) (fun _ _ _ h => h) (Or.inl ⟨by kernel_rfl, ?h35⟩) hHeld ?_
         case h35 => intro u hSw; (try dsimp only at hSw); go_simp; try with_reducible rfl
         try simp only [List.getElem_toArray]
         try simp only [List.getElem_cons_succ]
         try simp only [List.getElem_cons_zero]
         try simp only [Act.put]
         try simp only [List.setIfInBounds_toArray]
         try simp only [List.set]
         refine wpAnyH_take (i := 19) (v := ?v36) rfl (by kernel_rfl) (by kernel_rfl) (by kernel_rfl) (fun _ _ _ h => h) (Or.inl ⟨by kernel_rfl, ?h36⟩) hHeld ?_
         case h36 => intro u hSw; obtain ⟨⟨t0, t1, t2, b0, b1, _, _, _, _⟩, n2, _⟩ := hSw; go_simp; try with_reducible rfl
         try simp only [List.getElem_toArray]
         try simp only [List.getElem_cons_succ]
         try simp only [List.getElem_cons_zero]
         try simp only [Act.put]
         try simp only [List.setIfInBounds_toArray]
         try simp only [List.set]
         refine wpAnyH_ready (rs := [20]) (by kernel_rfl) (by simp) ?_
         refine AllReadyH.cons rfl (fun K hK => ?_) AllReadyH.nil
         go_simp
         go_wp2_with (go_at_call 21; refine (implPageFault_any _ zs 64 d' _ HZ.out (by omega) hd' hHeld.s.rz HZB.out).mono ?_; rintro e w' ⟨rfl, hb⟩; rw [HFl.out])
         refine hK.out _ _ (hHeld.up hb) (fun hHeld => ?_)
         clear hK K
         try simp only [Act.put]
         try simp only [List.setIfInBounds_toArray]
         try simp only [List.set]
         refine wpAnyH_take (i := 21) (v := ?v37) rfl (by kernel_rfl) (by kernel_rfl) (by kernel_rfl) (fun _ _ _ h => h) (Or.inl ⟨by kernel_rfl, ?h37⟩) hHeld ?_
         case h37 => intro u hSw; (try dsimp only at hSw); go_simp; try with_reducible rfl
         try simp only [List.getElem_toArray]
         try simp only [List.getElem_cons_succ]
         try simp only [List.getElem_cons_zero]
         try simp only [Act.put]
         try simp only [List.setIfInBounds_toArray]
         try simp only [List.set]
         refine wpAnyH_take (i := 22) (v := ?v38) rfl (by kernel_rfl) (by kernel_rfl) (by kernel_rfl) (fun _ _ _ h => h) (Or.inl ⟨by kernel_rfl, ?h38⟩) hHeld ?_
         case h38 => intro u hSw; (try dsimp only at hSw); go_simp; try with_reducible rfl
         try simp only [List.getElem_toArray]
         try simp only [List.getElem_cons_succ]
         try simp only [List.getElem_cons_zero]
         try simp only [Act.put]
         try simp only [List.setIfInBounds_toArray]
         try simp only [List.set]
         refine wpAnyH_take (i := 23) (v := ?v39) rfl (by kernel_rfl) (by kernel_rfl) (by kernel_rfl) (fun _ _ _ h => h) (Or.inl ⟨by kernel_rfl, ?h39⟩) hHeld ?_
         case h39 => intro u hSw; (try dsimp only at hSw); go_simp; try with_reducible rfl
         try simp only [List.getElem_toArray]
         try simp only [List.getElem_cons_succ]
         try simp only [List.getElem_cons_zero]
         try simp only [Act.put]
         try simp only [List.setIfInBounds_toArray]
         try simp only [List.set]
         refine wpAnyH_take (i := 24) (v := ?v40) rfl (by kernel_rfl) (by kernel_rfl) (by kernel_rfl) (fun _ _ _ h => h) (Or.inl ⟨by kernel_rfl, ?h40⟩) hHeld ?_
         case h40 => intro u hSw; (try dsimp only at hSw); go_simp; try with_reducible rfl
         try simp only [List.getElem_toArray]
         try simp only [List.getElem_cons_succ]
         try simp only [List.getElem_cons_zero]
         try simp only [Act.put]
         try simp only [List.setIfInBounds_toArray]
         try simp only [List.set]
         refine wpAnyH_take (i := 28) (v := ?v41) rfl (by kernel_rfl) (by kernel_rfl) (by kernel_rfl) (fun _ _ _ h => h) (Or.inl ⟨by kernel_rfl, ?h41⟩) hHeld ?_
         case h41 => intro u hSw; (try dsimp only at hSw); go_simp; try with_reducible rfl
         try simp only [List.getElem_toArray]
         try simp only [List.getElem_cons_succ]
         try simp only [List.getElem_cons_zero]
         try simp only [Act.put]
         try simp only [List.setIfInBounds_toArray]
         try simp only [List.set]
         refine wpAnyH_take (i := 25) (v := ?v42) rfl (by kernel_rfl) (by kernel_rfl) (by kernel_rfl) (fun _ _ _ h => h) (Or.inl ⟨by kernel_rfl, ?h42⟩) hHeld ?_
         case h42 => intro u hSw; obtain ⟨⟨t0, t1, t2, b0, b1, _, _, _, _⟩, n2, _⟩ := hSw; go_simp; try with_reducible rfl
         try simp only [List.getElem_toArray]
         try simp only [List.getElem_cons_succ]
         try simp only [List.getElem_cons_zero]
         try simp only [Act.put]
         try simp only [List.setIfInBounds_toArray]
         try simp only [List.set]
         refine wpAnyH_take (i := 29) (v := ?v43) rfl (by kernel_rfl) (by kernel_rfl) (by kernel_rfl) (fun _ _ _ h => h) (Or.inl ⟨by kernel_rfl, ?h43⟩) hHeld ?_
         case h43 => intro u hSw; obtain ⟨⟨t0, t1, t2, b0, b1, _, _, _, _⟩, n2, _⟩ := hSw; go_simp; try with_reducible rfl
         try simp only [List.getElem_toArray]
         try simp only [List.getElem_cons_succ]
         try simp only [List.getElem_cons_zero]
         try simp only [Act.put]
         try simp only [List.setIfInBounds_toArray]
         try simp only [List.set]
         refine wpAnyH_ready (rs := [26]) (by kernel_rfl) (by simp) ?_
         refine AllReadyH.cons rfl (fun K hK => ?_) AllReadyH.nil
         go_simp
         go_wp2_with (go_at_call 23; refine (implCompactPage_any _ zs 64 d' _ HZ.out (by omega) hd' hHeld.s.rz HZB.out).mono ?_; rintro e w' ⟨a9, d9, rfl, _, hb, y9⟩; rw [HCC.out.1, HCC.out.2]; rw [HCC.out.2] at y9)
         refine hK.out _ _ (hHeld.up hb) (fun hHeld => ?_)
         clear hK K
         have r9 := y9.reads
         clear y9
         try simp only [Act.put]
         try simp only [List.setIfInBounds_toArray]
         try simp only [List.set]
         refine wpAnyH_take (i := 27) (v := ?v44) rfl (by kernel_rfl) (by kernel_rfl) (by kernel_rfl) (fun _ _ _ h => h) (Or.inl ⟨by kernel_rfl, ?h44⟩) hHeld ?_
         case h44 => intro u hSw; have hfd := fld27_2 0 0 (.slice a9 zs.length d9) u; go_simp; try with_reducible rfl
         try simp only [List.getElem_toArray]
         try simp only [List.getElem_cons_succ]
         try simp only [List.getElem_cons_zero]
         try simp only [Act.put]
         try simp only [List.setIfInBounds_toArray]
         try simp only [List.set]
         rw [HZ.out]
         refine wpAnyH_ready (rs := [30]) (by kernel_rfl) (by simp) ?_
         refine AllReadyH.cons rfl (fun K hK => ?_) AllReadyH.nil
         go_simp
         go_wp2_with (go_at_call 19; refine (lwSame_same a9 _ 64 d9 d' zs _ HZ.out r9 hHeld.s.rz).mono ?_; rintro e w' ⟨rfl, hw'⟩; subst w')
         refine hK.out _ _ (hHeld) (fun hHeld => ?_)
         clear hK K
         clear r9
         try simp only [Act.put]
         try simp only [List.setIfInBounds_toArray]
         try simp only [List.set]
         refine wpAnyH_take (i := 31) (v := ?v45) rfl (by kernel_rfl) (by kernel_rfl) (by kernel_rfl) (fun _ _ _ h => h) (Or.inl ⟨by kernel_rfl, ?h45⟩) hHeld ?_
         case h45 => intro u hSw; (try dsimp only at hSw); go_simp; try with_reducible rfl
         try simp only [List.getElem_toArray]
         try simp only [List.getElem_cons_succ]
         try simp only [List.getElem_cons_zero]
         try simp only [Act.put]
         try simp only [List.setIfInBounds_toArray]
         try simp only [List.set]
         refine wpAnyH_take (i := 32) (v := ?v46) rfl (by kernel_rfl) (by kernel_rfl) (by kernel_rfl) (fun _ _ _ h => h) (Or.inl ⟨by kernel_rfl, ?h46⟩) hHeld ?_
         case h46 => intro u hSw; (try dsimp only at hSw); go_simp; try with_reducible rfl
         try simp only [List.getElem_toArray]
         try simp only [List.getElem_cons_succ]
         try simp only [List.getElem_cons_zero]
         try simp only [Act.put]
         try simp only [List.setIfInBounds_toArray]
         try simp only [List.set]
         refine wpAnyH_take (i := 33) (v := ?v47) rfl (by kernel_rfl) (by kernel_rfl) (by kernel_rfl) (fun _ _ _ h => h) (Or.inl ⟨by kernel_rfl, ?h47⟩) hHeld ?_
         case h47 => intro u hSw; (try dsimp only at hSw); go_simp; try with_reducible rfl
         try simp only [List.getElem_toArray]
         try simp only [List.getElem_cons_succ]
         try simp only [List.getElem_cons_zero]
         try simp only [Act.put]
         try simp only [List.setIfInBounds_toArray]
         try simp only [List.set]
         refine wpAnyH_take (i := 34) (v := ?v48) rfl (by kernel_rfl) (by kernel_rfl) (by kernel_rfl) (fun _ _ _ h => h) (Or.inl ⟨by kernel_rfl, ?h48⟩) hHeld ?_
         case h48 => intro u hSw; obtain ⟨⟨t0, t1, t2, b0, b1, _, _, _, _⟩, n2, _⟩ := hSw; go_simp; try with_reducible rfl
         try simp only [List.getElem_toArray]
         try simp only [List.getElem_cons_succ]
         try simp only [List.getElem_cons_zero]
         try simp only [Act.put]
         try simp only [List.setIfInBounds_toArray]
         try simp only [List.set]
         refine wpAnyH_ready (rs := [35]) (by kernel_rfl) (by simp) ?_
         refine AllReadyH.cons rfl (fun K hK => ?_) AllReadyH.nil
         go_simp
         go_wp2_with (go_at_call 21; refine (implPageFault_any _ ns 64 64 _ HNs.out (by omega) hd8 hHeld.rn HNB.out).mono ?_; rintro e w' ⟨rfl, hb⟩; rw [HNF.out])
         refine hK.out _ _ (hHeld.up hb) (fun hHeld => ?_)
         clear hK K
         try simp only [Act.put]
         try simp only [List.setIfInBounds_toArray]
         try simp only [List.set]
         refine wpAnyH_take (i := 36) (v := ?v49) rfl (by kernel_rfl) (by kernel_rfl) (by kernel_rfl) (fun _ _ _ h => h) (Or.inl ⟨by kernel_rfl, ?h49⟩) hHeld ?_
         case h49 => intro u hSw; (try dsimp only at hSw); go_simp; try with_reducible rfl
         try simp only [List.getElem_toArray]
         try simp only [List.getElem_cons_succ]
         try simp only [List.getElem_cons_zero]
         try simp only [Act.put]
         try simp only [List.setIfInBounds_toArray]
         try simp only [List.set]
         refine wpAnyH_take (i := 37) (v := ?v50) rfl (by kernel_rfl) (by kernel_rfl) (by kernel_rfl) (fun _ _ _ h => h) (Or.inl ⟨by kernel_rfl, ?h50⟩) hHeld ?_
         case h50 => intro u hSw; (try dsimp only at hSw); go_simp; try with_reducible rfl
         try simp only [List.getElem_toArray]
         try simp only [List.getElem_cons_succ]
         try simp only [List.getElem_cons_zero]
         try simp only [Act.put]
         try simp only [List.setIfInBounds_toArray]
         try simp only [List.set]
         refine wpAnyH_take (i := 38) (v := ?v51) rfl (by kernel_rfl) (by kernel_rfl) (by kernel_rfl) (fun _ _ _ h => h) (Or.inl ⟨by kernel_rfl, ?h51⟩) hHeld ?_
         case h51 => intro u hSw; (try dsimp only at hSw); go_simp; try with_reducible rfl
         try simp only [List.getElem_toArray]
         try simp only [List.getElem_cons_succ]
         try simp only [List.getElem_cons_zero]
         try simp only [Act.put]
         try simp only [List.setIfInBounds_toArray]
         try simp only [List.set]
         refine wpAnyH_take (i := 39) (v := ?v52) rfl (by kernel_rfl) (by kernel_rfl) (by kernel_rfl) (fun _ _ _ h => h) (Or.inl ⟨by kernel_rfl, ?h52⟩) hHeld ?_
         case h52 => intro u hSw; (try dsimp only at hSw); go_simp; try with_reducible rfl
         try simp only [List.getElem_toArray]
         try simp only [List.getElem_cons_succ]
         try simp only [List.getElem_cons_zero]
         try simp only [Act.put]
         try simp only [List.setIfInBounds_toArray]
         try simp only [List.set]
         refine wpAnyH_take (i := 40) (v := ?v53) rfl (by kernel_rfl) (by kernel_rfl) (by kernel_rfl) (fun _ _ _ h => h) (Or.inl ⟨by kernel_rfl, ?h53⟩) hHeld ?_
         case h53 => intro u hSw; obtain ⟨⟨t0, t1, t2, b0, b1, _, _, _, _⟩, n2, _⟩ := hSw; go_simp; try with_reducible rfl
         try simp only [List.getElem_toArray]
         try simp only [List.getElem_cons_succ]
         try simp only [List.getElem_cons_zero]
         try simp only [Act.put]
         try simp only [List.setIfInBounds_toArray]
         try simp only [List.set]
         refine wpAnyH_ready (rs := [41]) (by kernel_rfl) (by simp) ?_
         refine AllReadyH.cons rfl (fun K hK => ?_) AllReadyH.nil
         go_simp
         go_wp2_with (go_at_call 18; refine (implFreeIn_any _ ns 64 64 _ HNs.out (by omega) hd8 hHeld.rn HNB.out).mono ?_; rintro e w' ⟨rfl, hb⟩; rw [HNV.out])
         refine hK.out _ _ (hHeld.up hb) (fun hHeld => ?_)
         clear hK K
         try simp only [Act.put]
         try simp only [List.setIfInBounds_toArray]
         try simp only [List.set]
         refine wpAnyH_take (i := 42) (v := ?v54) rfl (by kernel_rfl) (by kernel_rfl) (by kernel_rfl) (fun _ _ _ h => h) (Or.inl ⟨by kernel_rfl, ?h54⟩) hHeld ?_
         case h54 => intro u hSw; have hfd := fld33_1 0 62 u; go_simp; try with_reducible rfl
         try simp only [List.getElem_toArray]
         try simp only [List.getElem_cons_succ]
         try simp only [List.getElem_cons_zero]
         try simp only [Act.put]
         try simp only [List.setIfInBounds_toArray]
         try simp only [List.set]
         refine wpAnyH_take (i := 43) (v := ?v55) rfl (by kernel_rfl) (by kernel_rfl) (by kernel_rfl) (fun _ _ _ h => h) (Or.inl ⟨by kernel_rfl, ?h55⟩) hHeld ?_
         case h55 => intro u hSw; (try dsimp only at hSw); go_simp; try with_reducible rfl
         try simp only [List.getElem_toArray]
         try simp only [List.getElem_cons_succ]
         try simp only [List.getElem_cons_zero]
         try simp only [Act.put]
         try simp only [List.setIfInBounds_toArray]
         try simp only [List.set]
         refine wpAnyH_take (i := 44) (v := ?v56) rfl (by kernel_rfl) (by kernel_rfl) (by kernel_rfl) (fun _ _ _ h => h) (Or.inl ⟨by kernel_rfl, ?h56⟩) hHeld ?_
         case h56 => intro u hSw; (try dsimp only at hSw); go_simp; try with_reducible rfl
         try simp only [List.getElem_toArray]
         try simp only [List.getElem_cons_succ]
         try simp only [List.getElem_cons_zero]
         try simp only [Act.put]
         try simp only [List.setIfInBounds_toArray]
         try simp only [List.set]
         refine wpAnyH_take (i := 45) (v := ?v57) rfl (by kernel_rfl) (by kernel_rfl) (by kernel_rfl) (fun _ _ _ h => h) (Or.inl ⟨by kernel_rfl, ?h57⟩) hHeld ?_
         case h57 => intro u hSw; (try dsimp only at hSw); go_simp; try with_reducible rfl
         try simp only [List.getElem_toArray]
         try simp only [List.getElem_cons_succ]
         try simp only [List.getElem_cons_zero]
         try simp only [Act.put]
         try simp only [List.setIfInBounds_toArray]
         try simp only [List.set]
         refine wpAnyH_done (by kernel_rfl) ?_ _
         have g := hHeld.s.g
         clear hHeld
         go_wp2_with fail
         go_ret
         exact ⟨rfl, g⟩

theorem lawCompacts_over (a : Option Addr) (n c : Nat) (w : World) (h : 1048576 < n) :
    Calls Try.prog 4 #[.slice a n c] w fun e w' => e = .returned (.bool true) ∧ Below w.heap.size w w' := by
  go_enter Try.func4, Try.ntmps4
  go_wp2_with fail
  refine (lwBig_big a n c _ h).mono ?_
  rintro e w0 ⟨rfl, h0⟩
  rw [h0]
  clear h0 w0
  go_wp2_with fail
  go_ret
  exact ⟨rfl, Below.refl _ _⟩

theorem lawCompacts_any (a : Option Addr) (n c : Nat) (zs : List Int) (w : World) (h : IsRow .u8 w a n c zs) :
    Calls Try.prog 4 #[.slice a n c] w fun e w' => e = .returned (.bool true) ∧ Below w.heap.size w w' := by
  obtain ⟨hn, _, hr, hz⟩ := isRow_reads h
  by_cases hs : 1048576 < n
  · exact lawCompacts_over a n c w hs
  · exact lawCompacts_fits a n c (zs.take n) w hr hn (by omega) hz

end Go.Proofs.Ytjbopcplpgoiaaa
