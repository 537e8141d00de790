/-
  The contract of writeAheadOfLow.
-/
import Derived.Test.YtnfolgoloaeanaaGreatUBas

namespace Go.Proofs.YtnfolgoloaeanaaGreat
set_option maxRecDepth 20000
open Go.RowKit
set_option linter.unusedVariables false

theorem mem_splice {zs cs : List Int} {p : Nat} {z : Int} (h : z ∈ splice zs p cs) : z ∈ zs ∨ z ∈ cs := by
  unfold splice at h
  rw [List.mem_append, List.mem_append] at h
  rcases h with h | h | h
  · exact .inl (List.mem_of_mem_take h)
  · exact .inr h
  · exact .inl (List.mem_of_mem_drop h)
theorem isPg_splice {zs cs : List Int} {p : Nat} (h : IsPg zs) (hc : ∀ z ∈ cs, 0 ≤ z ∧ z ≤ 255) (hl : p + cs.length ≤ 64) : IsPg (splice zs p cs) :=
  ⟨by rw [length_splice _ _ _ (by rw [h.len]; exact hl)]; exact h.len, fun z hz => by rcases mem_splice hz with h1 | h1; exact h.bd z h1; exact hc z h1⟩
theorem nb_set_same {zs : List Int} (i v : Nat) (hi : i < zs.length) : nb (zs.set i (v : Int)) i = v := by simp [nb, byt, List.getD, hi]
theorem nb_set_other {zs : List Int} (i j : Nat) (v : Int) (hij : i ≠ j) : nb (zs.set i v) j = nb zs j := by simp [nb, byt, List.getD, hij]
theorem nb_span_place {zs : List Int} (h : IsPg zs) (s p l : Nat) (hs : s < 31) : nb (spanSet zs s p l) (2 + 2 * s) = p := by
  unfold spanSet
  rw [nb_set_other _ _ _ (by omega), nb_set_same _ _ (by rw [h.len]; omega)]
theorem nb_span_len {zs : List Int} (h : IsPg zs) (s p l : Nat) (hs : s < 30) : nb (spanSet zs s p l) (3 + 2 * s) = l := by
  unfold spanSet
  rw [nb_set_same _ _ (by rw [List.length_set, h.len]; omega)]

def WaS (w : World) (b : Nat) (V : World) : Prop := (∃ xs, Arr V b xs) ∧ Turned b (b + 1) w V
theorem waKeep {w : World} {b : Nat} {W V : World} (h : WaS w b W) (hb : Below W.heap.size W V) : WaS w b V := ⟨⟨_, h.1.choose_spec.grown hb⟩, h.2.trans (Turned.ofBelow hb)⟩

/-- A page behind writeAheadOfLow. -/
def aheadP (zs : List Int) (s : Nat) (cs : List Int) : List Int := (spanSet (splice zs (nb zs 1 - cs.length) cs) s (nb zs 1 - cs.length) cs.length).set 1 ((nb zs 1 - cs.length : Nat) : Int)

set_option maxHeartbeats 2000000 in
theorem writeAhead_any (b s n sb so c : Nat) (zs cs : List Int) (w : World) (hA : Arr w b zs) (hZ : IsPg zs) (hcs : ∀ z ∈ cs, 0 ≤ z ∧ z ≤ 255) (hn : cs.length = n) (h1 : 1 ≤ n) (hlow : n ≤ nb zs 1) (h64 : nb zs 1 ≤ 64) (hs : s < 30) (hr : Reads w (some ⟨sb, so, none⟩) cs) :
    Calls Tryz.prog 155 #[.pointer (some ⟨b, 0, none⟩), .int .u64 s, .slice (some ⟨sb, so, none⟩) n c] w fun e w' => e = .returned (.tuple #[]) ∧ Turned b (b + 1) w w' ∧ Arr w' b (aheadP zs s cs) := by
  obtain ⟨p, hp⟩ : ∃ p, nb zs 1 = p + n := ⟨nb zs 1 - n, by omega⟩
  have HE : Hid (aheadP zs s cs = (spanSet (splice zs p cs) s p n).set 1 (p : Int)) := by
    show _ = _
    unfold aheadP
    rw [hn, hp, Nat.add_sub_cancel]
  have HLow : Hid (nb zs 1 = p + n) := hp
  have hpn : p + n ≤ 64 := by omega
  have hY0 : IsPg (spanSet (splice zs p cs) s p n) := isPg_span (isPg_splice hZ hcs (by rw [hn]; exact hpn)) s p n (by omega) (by omega)
  have hPl := nb_span_place (isPg_splice (p := p) hZ hcs (by rw [hn]; exact hpn)) s p n (by omega)
  have hLn := nb_span_len (isPg_splice (p := p) hZ hcs (by rw [hn]; exact hpn)) s p n hs
  have HNl : Hid (cs.length = n) := hn
  clear hp hlow h64 hn
  go_enter Tryz.func155, Tryz.ntmps155
  go_wp2_with (refine wpList_loadPg rfl _ rfl _ rfl zs (by assumption) ?_)
  refine (low_any zs _ hZ).mono ?_
  rintro e w1 ⟨rfl, g1⟩
  rw [HLow.out]
  have hA1 := hA.grown g1
  have hr1 := hr.below g1 (Nat.le_refl _)
  have ht1 : Turned b (b + 1) w w1 := Turned.ofBelow g1
  clear g1 hA hr
  go_wp2_with fail
  rw [show (p : Int) + (n : Int) = ((p + n : Nat) : Int) by omega]
  refine (writeCell_any b s p n sb so c zs cs _ hA1 HNl.out h1 hpn hs hr1).mono ?_
  rintro e w2 ⟨rfl, ht2, hA2⟩
  have ht := ht1.trans ht2
  clear ht1 ht2 hA1 hr1
  generalize spanSet (splice zs p cs) s p n = ys at hA2 hY0 hPl hLn HE
  have hY : IsPg ys := hY0
  have HP : Hid (nb ys (2 + 2 * s) = p) := hPl
  have HL : Hid (nb ys (3 + 2 * s) = n) := hLn
  clear hY0 hPl hLn
  have hfd : ∀ W : World, (Instr.field 240 (.agg #[.int .u64 p, .int .u64 n]) 0).run Tryz.prog W = .ok (.int .u64 p) W := fun _ => by kernel_rfl
  have w2' : IntKind.u8.wrap (p : Int) = (p : Int) := by rw [IntKind.wrap_u8]; omega
  go_wp2_with fail
  refine wp_region_held_drew (S := fun V => (∃ xs, Arr V b xs) ∧ Turned b (b + 1) w V) (by kernel_rfl) ⟨⟨_, hA2.grown (Below.refl _ _).drew⟩, ht.trans (Turned.ofBelow (Below.refl _ _).drew)⟩ (fun hHeld => ?_)
  have hAD := hA2.grown (w' := w2.drew) (Below.refl _ _).drew
  generalize w2.drew = D at hHeld hAD ⊢
  clear hA2 ht
  refine tkH (i := 0) (v := .pointer (some ⟨b, 0, none⟩)) rfl (Or.inl ⟨by kernel_rfl, fun u hSw => by (try dsimp only at hSw); go_simp; try with_reducible rfl⟩) hHeld ?_
  try simp only [Act.put, tdy]
  refine tkH (i := 1) (v := .pointer (some ⟨b, 0, none⟩)) rfl (Or.inl ⟨by kernel_rfl, fun u hSw => by (try dsimp only at hSw); go_simp; try with_reducible rfl⟩) hHeld ?_
  try simp only [Act.put, tdy]
  refine tkH (i := 2) (v := .pointer (some ⟨b, 0, none⟩)) rfl (Or.inl ⟨by kernel_rfl, fun u hSw => by (try dsimp only at hSw); go_simp; try with_reducible rfl⟩) hHeld ?_
  try simp only [Act.put, tdy]
  refine tkH (i := 4) (v := .int .u64 s) rfl (Or.inl ⟨by kernel_rfl, fun u hSw => by (try dsimp only at hSw); go_simp; try with_reducible rfl⟩) hHeld ?_
  try simp only [Act.put, tdy]
  refine tkH (i := 8) (v := .pointer (some ⟨b, 0, none⟩)) rfl (Or.inl ⟨by kernel_rfl, fun u hSw => by (try dsimp only at hSw); go_simp; try with_reducible rfl⟩) hHeld ?_
  try simp only [Act.put, tdy]
  refine wpAnyH_ready (rs := [3]) (by kernel_rfl) (by simp) ?_
  refine AllReadyH.cons rfl (fun K hK => ?_) AllReadyH.nil
  rw [if_pos (by kernel_rfl)]
  refine wp_load_row 207 _ rfl b rfl 207 (pgC ys) (0, 0) _ hAD.row Tryz.underlying207 rfl (by rw [pgC_size, hAD.len]; exact info57) ?_
  refine hK.out _ _ hHeld (fun hHeld => ?_)
  clear hK K
  try simp only [Act.put, tdy]
  refine wpAnyH_ready (rs := [5]) (by kernel_rfl) (by simp) ?_
  refine AllReadyH.cons rfl (fun K hK => ?_) AllReadyH.nil
  go_simp
  go_wp2_with (go_at_call 194; refine (spanOf_any ys s _ hY (by omega)).mono ?_; rintro e w' ⟨rfl, hb⟩; rw [HP.out, HL.out])
  have hAE := hAD.grown hb
  refine hK.out _ _ (waKeep hHeld hb) (fun hHeld => ?_)
  clear hK K
  try simp only [Act.put, tdy]
  refine tkH (i := 6) (v := .int .u64 p) rfl (Or.inl ⟨by kernel_rfl, fun u hSw => by (try dsimp only at hSw); go_simp; try with_reducible rfl⟩) hHeld ?_
  try simp only [Act.put, tdy]
  refine tkH (i := 7) (v := .int .u8 p) rfl (Or.inl ⟨by kernel_rfl, fun u hSw => by (try dsimp only at hSw); go_simp; try with_reducible rfl⟩) hHeld ?_
  try simp only [Act.put, tdy]
  refine tkH (i := 9) (v := .pointer (some ⟨b, 1, none⟩)) rfl (Or.inl ⟨by kernel_rfl, fun u hSw => by (try dsimp only at hSw); go_simp; try with_reducible rfl⟩) hHeld ?_
  try simp only [Act.put, tdy]
  refine wpAnyH_ready (rs := [10]) (by kernel_rfl) (by simp) ?_
  refine AllReadyH.cons rfl (fun K hK => ?_) AllReadyH.nil
  obtain ⟨_, ht⟩ := id hHeld
  have c0 := hAE.at 1 (by omega)
  have f0 := hAE.frozen 1
  go_simp
  go_wp2_with fail
  have hAF := hAE.set 1 (p : Int)
  have htF := ht.setCell (p := ⟨b, 1, none⟩) (Nat.le_refl _) (by simp) (.int .u8 (p : Int))
  refine hK.out _ _ ⟨⟨_, hAF⟩, htF⟩ (fun hHeld => ?_)
  clear hK K
  try simp only [Act.put, tdy]
  refine wpAnyH_done (by kernel_rfl) ?_ _
  go_wp2_with fail
  go_end0
  exact ⟨rfl, htF, by rw [HE.out]; exact hAF⟩


set_option maxHeartbeats 1000000 in
theorem l2Empty_any (a : Option Addr) (zs : List Int) (c : Nat) (w : World) (hr : Reads w a zs) (h : Fine zs) :
    Calls Tryz.prog 189 #[.slice a 64 c] w fun e w' => e = .returned (.int .i64 (firstE zs 0 (nb zs 0))) ∧ w' = w := by
  have hc := h.few
  obtain ⟨n, hn⟩ : ∃ n, n = nb zs 0 := ⟨_, rfl⟩
  have HN : Hid (nb zs 0 = n) := hn.symm
  rw [← hn] at hc ⊢
  clear hn
  go_enter Tryz.func189, Tryz.ntmps189
  go_wp2_with fail
  go_loop [3] (fun i => ∃ k : Nat, k ≤ n ∧ i = .int .i64 k ∧ Hid (firstE zs 0 n = firstE zs k (n - k))) (fun i => n - (intOf i).toNat)
  case atStart => exact ⟨0, by omega, rfl, rfl⟩
  case round =>
    obtain ⟨k, hk, rfl, HF⟩ := hrel
    go_wp2_with fail
    refine (l2Count_any a zs c _ hr h.pg).mono ?_
    rintro e w' ⟨rfl, rfl⟩
    rw [HN.out]
    by_cases hlt : k < n
    · have hi : (k : Int) < (n : Int) := by omega
      go_wp2_with fail
      refine (l2Size_any a zs c k _ hr h.pg (by omega)).mono ?_
      rintro e w' ⟨rfl, rfl⟩
      have hpl := h.place k (by rw [HN.out]; exact hlt)
      cases hE : empB zs k
      · have HS : Hid (firstE zs 0 n = firstE zs (k + 1) (n - (k + 1))) := by
          show _ = _
          rw [HF.out, show n - k = n - (k + 1) + 1 by omega, firstE, hE]
          rfl
        have hl : nb zs (3 + 2 * k) ≠ 0 := by
          rcases hpl with ⟨h1, h2⟩ | h1
          · simp [empB, h1, h2] at hE
          · exact h1.2.1
        obtain ⟨l, hll⟩ : ∃ l, l = nb zs (3 + 2 * k) := ⟨_, rfl⟩
        rw [← hll] at hl ⊢
        have dl : ((l : Int) == 0) = false := by simp; omega
        clear hE hll hl hpl
        go_wp2_with fail
        go_round
        case rel => exact ⟨k + 1, by omega, by go_num, HS⟩
        case measure => simp [intOf]; omega
      · have HS : Hid (firstE zs 0 n = k) := by
          show _ = _
          rw [HF.out, show n - k = n - (k + 1) + 1 by omega, firstE, hE]
          rfl
        have hl : nb zs (3 + 2 * k) = 0 := by simp [empB] at hE; exact hE.2
        rw [hl]
        clear hE hl hpl
        go_wp2_with fail
        go_ret
        exact ⟨by rw [HS.out]; rfl, rfl⟩
    · have e : k = n := by omega
      subst e
      go_wp2_with fail
      refine (l2Count_any a zs c _ hr h.pg).mono ?_
      rintro e w' ⟨rfl, rfl⟩
      rw [HN.out]
      go_wp2_with fail
      go_ret
      exact ⟨by rw [HF.out, Nat.sub_self]; rfl, rfl⟩


/-- Block g holds the 64 bytes zs first of all, and may be written. -/
structure Sl64 (w : World) (g : Nat) (zs : List Int) : Prop where
  len : zs.length = 64
  row : ∃ tl : List Value, w.heap[g]? = some (.cells (zs.map (Value.int .u8) ++ tl).toArray 5)

section
variable {w w' : World} {g : Nat} {zs : List Int}
theorem Sl64.lt (h : Sl64 w g zs) : g < w.heap.size := by obtain ⟨_, ht⟩ := h.row; exact (Array.getElem?_eq_some_iff.1 ht).1
theorem Sl64.below {B : Nat} (h : Sl64 w g zs) (hb : Below B w w') (hlt : g < B) : Sl64 w' g zs := ⟨h.len, by obtain ⟨tl, ht⟩ := h.row; exact ⟨tl, (hb.block g hlt).trans ht⟩⟩
theorem Sl64.grown (h : Sl64 w g zs) (hb : Below w.heap.size w w') : Sl64 w' g zs := h.below hb h.lt
theorem Sl64.cell (h : Sl64 w g zs) (i : Nat) (hi : i < 64) : w.cell? ⟨g, i, none⟩ = some (.int .u8 (zs.getD i 0)) := by
  obtain ⟨tl, ht⟩ := h.row
  have hl := h.len
  rw [cell_of_row w g i _ _ _ ht]
  simp [List.getElem?_append, hl, hi, List.getD]
theorem Sl64.frozen (h : Sl64 w g zs) (i : Nat) : w.frozen? ⟨g, i, none⟩ = false := by obtain ⟨tl, ht⟩ := h.row; simp [World.frozen?, ht]
theorem Sl64.bytes (h : Sl64 w g zs) {lo hi : Nat} (h1 : lo ≤ g) (h2 : g < hi) : BytesIn lo hi w (some ⟨g, 0, none⟩) zs :=
  .inr ⟨g, 0, rfl, h1, h2, fun i hi => by rw [Nat.zero_add]; exact h.cell i (by rw [← h.len]; exact hi), fun i _ => by rw [Nat.zero_add]; exact h.frozen i⟩
theorem Sl64.set (h : Sl64 w g zs) (i : Nat) (hi : i < 64) (v : Int) : Sl64 (w.setCell ⟨g, i, none⟩ (.int .u8 v)) g (zs.set i v) := by
  obtain ⟨tl, ht⟩ := h.row
  refine ⟨by rw [List.length_set]; exact h.len, tl, ?_⟩
  have hv : w.heap[g]'h.lt = .cells (zs.map (Value.int .u8) ++ tl).toArray 5 := (Array.getElem?_eq_some_iff.1 ht).2
  unfold World.setCell
  rw [Array.getElem?_eq_getElem (by simpa using h.lt), Array.getElem_modify]
  have hl := h.len
  simp [hv, List.set_append_left, hl, hi]
theorem Sl64.put (h : Sl64 w g zs) (off : Nat) (cs : List Int) (hfit : off + cs.length ≤ 64) (tl : List Value) (ht : w.heap[g]? = some (.cells (zs.map (Value.int .u8) ++ tl).toArray 5)) :
    Sl64 (w.setRow g ((zs.map (Value.int .u8) ++ tl).toArray.toList.take off ++ cs.map (Value.int .u8) ++ (zs.map (Value.int .u8) ++ tl).toArray.toList.drop (off + (cs.map (Value.int .u8)).length)).toArray) g (splice zs off cs) := by
  refine ⟨by rw [length_splice _ _ _ (by rw [h.len]; exact hfit)]; exact h.len, tl, ?_⟩
  rw [setRow_heap w g _ _ _ _ ht]
  have hl := h.len
  congr 2
  rw [List.length_map]
  simp only []
  rw [List.take_append_of_le_length (by simp; omega), List.drop_append_of_le_length (by simp; omega)]
  simp [splice]
end

set_option maxHeartbeats 1000000 in
theorem l2Copy_any (a : Option Addr) (zs : List Int) (c : Nat) (w : World) (hr : Reads w a zs) (h : zs.length = 64) :
    Calls Tryz.prog 89 #[.slice a 64 c] w fun e w' => ∃ g d, e = .returned (.slice (some ⟨g, 0, none⟩) 64 d) ∧ 64 ≤ d ∧ Below w.heap.size w w' ∧ w.heap.size ≤ g ∧ Sl64 w' g zs := by
  obtain ⟨i0, hi, hz0, hz1, hz2⟩ := info5
  obtain ⟨b, off, rfl⟩ : ∃ b off, a = some ⟨b, off, none⟩ := by
    rcases hr with hr | ⟨b, off, ha, _⟩
    · rw [hr] at h; simp at h
    · exact ⟨b, off, ha⟩
  have hO : (w.alloc (.cells #[] 5)).ownsRow w.heap.size 5 1 (.slice (some ⟨w.heap.size, 0, none⟩) 0 0) 0 [] := by simpa using World.ownsRow_lit (base := w.heap.size) (e := 5) (size := 1) w #[] 0 (Nat.le_refl _) (by unfold maxLen; omega) rfl
  have hl : (zs.map (Value.int .u8)).length = 64 * 1 := by simpa using h
  go_enter Tryz.func89, Tryz.ntmps89
  go_wp2_with (at_builtin; go_must (refine wpList_append_own _ rfl _ _ 22 rfl w.heap.size 5 i0 (.int .u8 0) 1 1 Tryz.underlying22 hi hz0 hz1 hz2 rfl (by decide) _ _ _ rfl hO ⟨b, off, none⟩ 64 c (zs.map (Value.int .u8)) rfl hl ?c1 ?c2 ?c3 ?c4 ?c5 ?_))
  case c1 =>
    intro j u hu
    exact reads_src (hr.below (B := w.heap.size) (by go_grown) (Nat.le_refl _)) j u hu
  case c2 =>
    intro u hu
    rw [List.mem_map] at hu
    obtain ⟨z, _, rfl⟩ := hu
    rfl
  case c3 => unfold maxLen; omega
  case c4 => omega
  case c5 => simp
  intro v' w1 hown' hgrow _
  have hB' : Below w.heap.size w w1 := Below.grown ((Below.refl _ _).alloc (Nat.le_refl _) _) hgrow (by simp) (fun j hj => by simp [Value.ownBlock] at hj; omega)
  clear hgrow
  go_wp2_with fail
  go_ret
  have hown : w1.ownsRow w.heap.size 5 1 v' 64 (zs.map (Value.int .u8)) := by simpa using hown'
  rcases hown.2 with ⟨_, h0⟩ | ⟨g, cap, cur, hv, hg0, hg, hcap, _, _, htk⟩
  · cases h0
  · refine ⟨g, cap, by rw [← hv]; rfl, by omega, hB', hg0, h, (cur.toList.drop (64 * 1)), ?_⟩
    rw [hg, ← htk, List.take_append_drop]

set_option maxHeartbeats 1000000 in
theorem l2Stand_any (g d s p n sb so c : Nat) (zs cs : List Int) (w : World) (hA : Sl64 w g zs) (hd : 64 ≤ d) (hn : cs.length = n) (h1 : 1 ≤ n) (h64 : p + n ≤ 64) (hs : s < 30) (hr : Reads w (some ⟨sb, so, none⟩) cs) :
    Calls Tryz.prog 192 #[.slice (some ⟨g, 0, none⟩) 64 d, .int .i64 s, .int .i64 p, .slice (some ⟨sb, so, none⟩) n c] w fun e w' => e = .returned (.tuple #[]) ∧ Turned g (g + 1) w w' ∧ Sl64 w' g (spanSet (splice zs p cs) s p n) := by
  have hinf : (Tryz.prog.info? 5).map (·.size) = some 1 := by kernel_rfl
  obtain ⟨tl, ht⟩ := hA.row
  have hput := hA.put p cs (by rw [hn]; exact h64) tl ht
  have hsrc := reads_src hr
  have hmin : (cs.map (Value.int .u8)).length = Nat.min n (64 - p) := by rw [List.length_map, hn]; show n = min n (64 - p); omega
  have hfit : p + (cs.map (Value.int .u8)).length ≤ (zs.map (Value.int .u8) ++ tl).toArray.size := by simp [hn, hA.len]; omega
  have hone : ∀ v ∈ cs.map (Value.int .u8), v.oneCell' = true := fun v hv => by
    rw [List.mem_map] at hv
    obtain ⟨z, _, rfl⟩ := hv
    rfl
  have hdp : ¬ (d = p) := by omega
  have i1 : (p : Int) ≤ 64 := by omega
  have i2 : (p : Int) ≤ (d : Int) := by omega
  have HSrc : Hid (∀ j u, (cs.map (Value.int .u8))[j]? = some u → w.cell? ((⟨sb, so, none⟩ : Addr).add j) = some u) := hsrc
  have HMin : Hid ((cs.map (Value.int .u8)).length = Nat.min n (64 - p)) := hmin
  have HFit : Hid (p + (cs.map (Value.int .u8)).length ≤ (zs.map (Value.int .u8) ++ tl).toArray.size) := hfit
  have HOne : Hid (∀ v ∈ cs.map (Value.int .u8), v.oneCell' = true) := hone
  have HT : Hid (w.heap[g]? = some (.cells (zs.map (Value.int .u8) ++ tl).toArray 5)) := ht
  have HPut : Hid (Sl64 (w.setRow g ((zs.map (Value.int .u8) ++ tl).toArray.toList.take p ++ cs.map (Value.int .u8) ++ (zs.map (Value.int .u8) ++ tl).toArray.toList.drop (p + (cs.map (Value.int .u8)).length)).toArray) g (splice zs p cs)) := hput
  clear hsrc hmin hfit hone ht hput hr hn
  have hglt := hA.lt
  go_enter Tryz.func192, Tryz.ntmps192
  go_upto_region 1 with (refine wpList_copy_own rfl _ _ 22 22 rfl 5 Tryz.underlying22 hinf g p (64 - p) (d - p) ⟨sb, so, none⟩ n c rfl rfl _ 5 HT.out (cs.map (Value.int .u8)) HMin.out HSrc.out HFit.out HOne.out ?_)
  rw [← List.append_assoc]
  have hP := HPut.out
  have htP : ∀ cs', Turned g (g + 1) w (w.setRow g cs') := fun cs' => ⟨rfl, rfl, rfl, by rw [setRow_size]; exact Nat.le_refl _, fun k hk hn => setRow_other _ g k _ (by omega)⟩
  have htP := htP ((zs.map (Value.int .u8) ++ tl).toArray.toList.take p ++ cs.map (Value.int .u8) ++ (zs.map (Value.int .u8) ++ tl).toArray.toList.drop (p + (cs.map (Value.int .u8)).length)).toArray
  generalize hV : w.setRow g _ = V at hP htP ⊢
  clear hV HPut HT HFit HSrc HMin HOne
  obtain ⟨ys, hys⟩ : ∃ ys, ys = splice zs p cs := ⟨_, rfl⟩
  have HYS : Hid (ys = splice zs p cs) := hys
  rw [← hys] at hP
  clear hys
  have c0 := hP.cell (2 + 2 * s) (by omega)
  have f0 := hP.frozen (2 + 2 * s)
  have j1 : (2 : Int) + 2 * (s : Int) < 64 := by omega
  have j2 : ((2 : Int) + 2 * (s : Int)).toNat = 2 + 2 * s := by omega
  go_upto_region 2 with (fail)
  have hP2 := hP.set (2 + 2 * s) (by omega) (p : Int)
  have htP2 := htP.setCell (p := ⟨g, 2 + 2 * s, none⟩) (Nat.le_refl _) (by simp) (.int .u8 (p : Int))
  clear c0 f0 j1 j2
  generalize V.setCell ⟨g, 2 + 2 * s, none⟩ (.int .u8 (p : Int)) = V2 at hP2 htP2 ⊢
  have c0 := hP2.cell (3 + 2 * s) (by omega)
  have f0 := hP2.frozen (3 + 2 * s)
  have j1 : (3 : Int) + 2 * (s : Int) < 64 := by omega
  have j2 : ((3 : Int) + 2 * (s : Int)).toNat = 3 + 2 * s := by omega
  go_wp2_with fail
  go_end0
  exact ⟨rfl, htP2.setCell (Nat.le_refl _) (by simp) _, by rw [← HYS.out]; exact hP2.set (3 + 2 * s) (by omega) (n : Int)⟩

end Go.Proofs.YtnfolgoloaeanaaGreat

