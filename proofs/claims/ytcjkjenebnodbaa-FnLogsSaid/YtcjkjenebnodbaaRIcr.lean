/-
  The program's CrashLog.
-/
import Derived.Test.YtcjkjenebnodbaaRBna
import Derived.Test.YtcjkjenebnodbaaRLgq

namespace Go.Proofs.Ytcjkjenebnodbaa
open Go.RowKit
set_option linter.unusedVariables false

/-- What is there behind a crash, of which k bytes that were Loose were kept. -/
def crD (xs ys : List Int) (k : Int) : List Int := xs ++ ys.take k.toNat
def crQ (xs ys : List Int) (k : Int) : Int := if lfQ xs ys = 0 then (if inR k 0 ys.length then 0 else 3) else lfQ xs ys
def crB (xs ys : List Int) (k : Int) : List Int := if crQ xs ys k = 0 then (crD xs ys k).take (logU (crD xs ys k)) else []

theorem BytesIn.take {lo hi : Nat} {w : World} {a : Option Addr} {zs : List Int} (h : BytesIn lo hi w a zs) (k : Nat) : BytesIn lo hi w a (zs.take k) := by
  rcases h with h | ⟨b, off, ha, h1, h2, hc, hf⟩
  · exact .inl (by rw [h]; simp)
  · refine .inr ⟨b, off, ha, h1, h2, fun i hi => ?_, fun i hi => ?_⟩
    · rw [List.length_take] at hi
      rw [hc i (by omega)]
      simp [List.getD, show i < k by omega]
    · rw [List.length_take] at hi
      exact hf i (by omega)
theorem Reads.take {w : World} {a : Option Addr} {zs : List Int} (h : Reads w a zs) (k : Nat) : Reads w a (zs.take k) := by
  rcases h with h | ⟨b, off, ha, hc⟩
  · exact .inl (by rw [h]; simp)
  · refine .inr ⟨b, off, ha, fun i hi => ?_⟩
    rw [List.length_take] at hi
    rw [hc i (by omega)]
    simp [List.getD, show i < k by omega]
theorem lf_small {xs ys : List Int} (h : lfQ xs ys = 0) : xs.length + ys.length ≤ 16000 := by
  unfold lfQ at h
  split at h
  · omega
  · omega
theorem inR_nat {k : Int} {m : Nat} (h : inR k 0 m = true) : ∃ kk : Nat, k = kk ∧ kk ≤ m := by
  simp [inR] at h
  exact ⟨k.toNat, by omega, by omega⟩

set_option maxRecDepth 10000 in
set_option maxHeartbeats 2000000 in
theorem implCrashLog_any (x y : Option Addr) (xs ys : List Int) (c d : Nat) (k : Int) (w : World) (hn1 : xs.length ≤ 1048576) (hm1 : ys.length ≤ 1048576) (hc : xs.length ≤ c) (hd : ys.length ≤ d) (hcm : c ≤ 9223372036854775807) (hdm : d ≤ 9223372036854775807) (hx : Reads w x xs) (hy : Reads w y ys) (hxb : ∀ z ∈ xs, 0 ≤ z ∧ z ≤ 255) (hyb : ∀ z ∈ ys, 0 ≤ z ∧ z ≤ 255) :
    Calls Try.prog 26 #[.agg #[.slice x xs.length c, .slice y ys.length d], .int .i64 k] w fun e w' => LgPost w (crQ xs ys k) (crB xs ys k) [] e w' := by
  have HL : Hid (∀ X, Below w.heap.size w X → Calls Try.prog 28 #[.agg #[.slice x xs.length c, .slice y ys.length d]] X fun e w' => e = .returned (.int .i64 (lfQ xs ys)) ∧ Below X.heap.size X w') := fun X g => implLogFault_any x y xs ys c d X hn1 hm1 hc hd hcm hdm (hx.below g (Nat.le_refl _)) (hy.below g (Nat.le_refl _)) hxb hyb
  have HC : Hid (∀ kk : Nat, kk ≤ ys.length → ∀ X b, Below w.heap.size w X → TwoAt X b x xs.length c y kk d → Calls Try.prog 78 #[.slice (some ⟨b, 0, none⟩) 2 2] X fun e w' => ∃ v, e = .returned v ∧ Below X.heap.size X w' ∧ Gb X.heap.size w' v (xs ++ ys.take kk)) := fun kk hk X b g r => concat_two b x y xs (ys.take kk) _ c _ d X rfl (by rw [List.length_take]; omega) (by omega) (by omega) (hx.below g (Nat.le_refl _)) ((hy.below g (Nat.le_refl _)).take kk) r
  have HRl : Hid (xs.length + ys.length ≤ 16000 → ∀ (kk : Nat) X (p : Option Addr) (cp : Nat), (xs ++ ys.take kk).length ≤ cp → cp ≤ 9223372036854775807 → Reads X p (xs ++ ys.take kk) → Calls Try.prog 19 #[.slice p (xs ++ ys.take kk).length cp] X fun e w' => RlPost X (xs ++ ys.take kk) e w') := fun hl kk X p cp h1 h2 h3 => implReadLog_any (xs ++ ys.take kk) p cp X (by rw [List.length_append, List.length_take]; omega) h1 h2 h3 (fun z hz => (List.mem_append.1 hz).elim (hxb z) (fun h => hyb z (List.mem_of_mem_take h)))
  have hfld : ∀ (q u : Int) (a : Option Addr) (n c : Nat) (W : World), (Instr.field 30 (.agg #[.int .i64 q, .int .i64 u, .slice a n c]) 1).run Try.prog W = .ok (.int .i64 u) W := fun _ _ _ _ _ _ => by kernel_rfl
  have HQ : Hid (crQ xs ys k = if lfQ xs ys = 0 then (if inR k 0 ys.length then 0 else 3) else lfQ xs ys) := rfl
  have HSm : Hid (lfQ xs ys = 0 → xs.length + ys.length ≤ 16000) := lf_small
  clear hx hy hxb hyb hc
  generalize lfQ xs ys = q at HL HQ HSm ⊢
  obtain ⟨n, hnn⟩ : ∃ n, xs.length = n := ⟨_, rfl⟩
  obtain ⟨m, hmm⟩ : ∃ m, ys.length = m := ⟨_, rfl⟩
  rw [hnn] at HL HC HRl hn1 HSm ⊢
  rw [hmm] at HL HC HRl hm1 HQ HSm hd ⊢
  have HN : Hid (xs.length = n) := hnn
  have HM : Hid (ys.length = m) := hmm
  clear hnn hmm
  go_enter Try.func26, Try.ntmps26
  go_upto_region 1 with (fail)
  generalize hY : World.alloc _ _ = Y
  have hA : A3 w (w.heap.size + 1) Y := by rw [← hY]; exact ⟨by simp [go_sem], by simp [go_sem], by simp [go_sem], by simp [go_sem], by simp [go_sem], by simp [go_sem], by go_grown⟩
  have r : LgAt Y w.heap.size x n c y m d := by rw [← hY]; exact ⟨by simp [go_sem], by simp [go_sem]⟩
  clear hY
  obtain ⟨r0, r1⟩ := r
  have r : LgAt Y w.heap.size x n c y m d := ⟨r0, r1⟩
  go_wp2_with fail
  refine (HL.out _ hA.g).mono ?_
  rintro e w1 ⟨rfl, g1⟩
  have hA := hA.up g1
  have r := r.up g1
  clear g1 r0 r1
  obtain ⟨r0, r1⟩ := r
  have r : LgAt w1 w.heap.size x n c y m d := ⟨r0, r1⟩
  by_cases hq : q = 0
  · subst hq
    have HS := HSm.out rfl
    obtain ⟨t, ht⟩ : ∃ t, inR k 0 m = t := ⟨_, rfl⟩
    have HW : Hid (∀ X, Calls Try.prog 84 #[.int .i64 k, .int .i64 0, .int .i64 m] X fun e w' => e = .returned (.bool t) ∧ w' = X) := fun X => by rw [← ht]; exact isWithin_any k 0 m X
    cases t with
    | false =>
      have HQ2 : Hid (crQ xs ys k = 3) := by show _ = _; rw [HQ.out, if_pos rfl, ht]; rfl
      have HB2 : Hid (crB xs ys k = []) := by show _ = _; unfold crB; rw [HQ2.out]; rfl
      clear HQ ht
      go_wp2_with fail
      refine (HW.out _).mono ?_
      rintro e w2 ⟨rfl, hw⟩
      subst w2
      have hg := hA.g
      have hs := hA.lt
      obtain ⟨a0, a1, a2, f0, f1, f2, _⟩ := hA
      go_wp2_with fail
      refine bodyPost_ret (v := .agg #[.int .i64 3, .slice none 0 0, .slice none 0 0]) (by simp [results, Try.results26, go_sem, *]) rfl ?_
      rw [HQ2.out, HB2.out]
      exact ⟨none, 0, none, 0, w.heap.size, rfl, Nat.le_refl _, Nat.le_refl _, by omega, by omega, by go_grown, LogIn.none_ _ _ _ _ _ (by simp; omega)⟩
    | true =>
      have HQ2 : Hid (crQ xs ys k = 0) := by show _ = _; rw [HQ.out, if_pos rfl, ht]; rfl
      obtain ⟨kk, hk, hkm⟩ := inR_nat ht
      subst hk
      have HB2 : Hid (crB xs ys (kk : Int) = (xs ++ ys.take kk).take (logU (xs ++ ys.take kk))) := by show _ = _; unfold crB crD; rw [HQ2.out]; simp
      have HC := HC.out kk hkm
      have HC : Hid (∀ X b, Below w.heap.size w X → TwoAt X b x n c y kk d → Calls Try.prog 78 #[.slice (some ⟨b, 0, none⟩) 2 2] X fun e w' => ∃ v, e = .returned v ∧ Below X.heap.size X w' ∧ Gb X.heap.size w' v (xs ++ ys.take kk)) := HC
      have HRl := HRl.out HS kk
      have HRl : Hid (∀ X (p : Option Addr) (cp : Nat), (xs ++ ys.take kk).length ≤ cp → cp ≤ 9223372036854775807 → Reads X p (xs ++ ys.take kk) → Calls Try.prog 19 #[.slice p (xs ++ ys.take kk).length cp] X fun e w' => RlPost X (xs ++ ys.take kk) e w') := HRl
      have hdl : (xs ++ ys.take kk).length = n + kk := by rw [List.length_append, List.length_take, HN.out, HM.out]; omega
      have hul := logU_le (xs ++ ys.take kk)
      have HU : Hid (rlQ (xs ++ ys.take kk) = 0 ∧ rlU (xs ++ ys.take kk) = logU (xs ++ ys.take kk)) := ⟨by unfold rlQ; rw [if_neg (by omega)], by unfold rlU; rw [if_neg (by omega)]⟩
      have HPo : Hid (∀ X e w', RlPost X (xs ++ ys.take kk) e w' → ∃ a n c, e = .returned (.agg #[.int .i64 0, .int .i64 (logU (xs ++ ys.take kk)), .slice a n c]) ∧ Below X.heap.size X w') := fun X e w' h => by
        obtain ⟨a, c, D, h1, h2, _⟩ := h
        rw [HU.out.1, HU.out.2] at h1
        exact ⟨a, _, c, h1, h2⟩
      clear HQ ht HU
      generalize xs ++ ys.take kk = ds at HC HRl hdl hul HPo HB2
      generalize logU ds = u at hul HPo HB2
      rw [hdl] at hul HRl
      have HDl : Hid (ds.length = n + kk) := hdl
      clear hdl HSm
      go_wp2_with fail
      refine (HW.out _).mono ?_
      rintro e w2 ⟨rfl, hw⟩
      subst w2
      have hk0 : (0 : Int) ≤ (kk : Int) := by omega
      have hkd : (kk : Int) ≤ (d : Int) := by omega
      go_upto_region 6 with (fail)
      refine wp_region_held_drew (S := fun V => LgAt V w.heap.size x n c y m d) (by kernel_rfl) (r.up (Below.refl _ _).drew) (fun hHeld => ?_)
      have hA := hA.up (Below.refl w1.heap.size w1).drew
      generalize w1.drew = D at hHeld hA ⊢
      clear r r0 r1
      refine wpAnyH_take (i := 0) (v := ?v1) rfl (by kernel_rfl) (by kernel_rfl) (by kernel_rfl) (fun _ _ _ h => h) (Or.inl ⟨by kernel_rfl, ?h1⟩) hHeld ?_
      case h1 => intro u hSw; (try dsimp only at hSw); go_simp; try with_reducible rfl
      try simp only [List.getElem_toArray]
      try simp only [List.getElem_cons_succ]
      try simp only [List.getElem_cons_zero]
      try simp only [Act.put]
      try simp only [List.setIfInBounds_toArray]
      try simp only [List.set]
      refine wpAnyH_take (i := 1) (v := ?v2) rfl (by kernel_rfl) (by kernel_rfl) (by kernel_rfl) (fun _ _ _ h => h) (Or.inl ⟨by kernel_rfl, ?h2⟩) hHeld ?_
      case h2 => intro u hSw; obtain ⟨q0, q1⟩ := hSw; go_simp; try with_reducible rfl
      try simp only [List.getElem_toArray]
      try simp only [List.getElem_cons_succ]
      try simp only [List.getElem_cons_zero]
      try simp only [Act.put]
      try simp only [List.setIfInBounds_toArray]
      try simp only [List.set]
      refine wpAnyH_take (i := 2) (v := ?v3) rfl (by kernel_rfl) (by kernel_rfl) (by kernel_rfl) (fun _ _ _ h => h) (Or.inl ⟨by kernel_rfl, ?h3⟩) hHeld ?_
      case h3 => intro u hSw; (try dsimp only at hSw); go_simp; try with_reducible rfl
      try simp only [List.getElem_toArray]
      try simp only [List.getElem_cons_succ]
      try simp only [List.getElem_cons_zero]
      try simp only [Act.put]
      try simp only [List.setIfInBounds_toArray]
      try simp only [List.set]
      refine wpAnyH_take (i := 3) (v := ?v4) rfl (by kernel_rfl) (by kernel_rfl) (by kernel_rfl) (fun _ _ _ h => h) (Or.inl ⟨by kernel_rfl, ?h4⟩) hHeld ?_
      case h4 => intro u hSw; obtain ⟨q0, q1⟩ := hSw; go_simp; try with_reducible rfl
      try simp only [List.getElem_toArray]
      try simp only [List.getElem_cons_succ]
      try simp only [List.getElem_cons_zero]
      try simp only [Act.put]
      try simp only [List.setIfInBounds_toArray]
      try simp only [List.set]
      refine wpAnyH_take (i := 4) (v := ?v5) rfl (by kernel_rfl) (by kernel_rfl) (by kernel_rfl) (fun _ _ _ h => h) (Or.inl ⟨by kernel_rfl, ?h5⟩) hHeld ?_
      case h5 => intro u hSw; (try dsimp only at hSw); go_simp; try with_reducible rfl
      try simp only [List.getElem_toArray]
      try simp only [List.getElem_cons_succ]
      try simp only [List.getElem_cons_zero]
      try simp only [Act.put]
      try simp only [List.setIfInBounds_toArray]
      try simp only [List.set]
      refine wpAnyH_take (i := 5) (v := ?v6) rfl (by kernel_rfl) (by kernel_rfl) (by kernel_rfl) (fun _ _ _ h => h) (Or.inl ⟨by kernel_rfl, ?h6⟩) hHeld ?_
      case h6 => intro u hSw; (try dsimp only at hSw); go_simp; try with_reducible rfl
      try simp only [List.getElem_toArray]
      try simp only [List.getElem_cons_succ]
      try simp only [List.getElem_cons_zero]
      try simp only [Act.put]
      try simp only [List.setIfInBounds_toArray]
      try simp only [List.set]
      have gb : Below D.heap.size D (D.alloc (.cells #[.slice x n c, .slice y kk d] 22)) := by go_grown
      have hA8 := hA.up gb
      have r8 : TwoAt (D.alloc (.cells #[.slice x n c, .slice y kk d] 22)) D.heap.size x n c y kk d := ⟨by simp [go_sem], by simp [go_sem]⟩
      have hDs := hA.lt
      refine wpAnyH_ready (rs := [6]) (by kernel_rfl) (by simp) ?_
      refine AllReadyH.cons rfl (fun K hK => ?_) AllReadyH.nil
      go_simp
      refine hK.out _ _ (hHeld.up gb) (fun hHeld => ?_)
      clear hK K
      try simp only [Act.put]
      try simp only [List.setIfInBounds_toArray]
      try simp only [List.set]
      refine wpAnyH_ready (rs := [7]) (by kernel_rfl) (by simp) ?_
      refine AllReadyH.cons rfl (fun K hK => ?_) AllReadyH.nil
      go_simp
      go_wp2_with (go_at_call 78; refine (HC.out _ _ hA8.g r8).mono ?_; rintro e w3 ⟨v3, rfl, g3, hG3⟩)
      refine hK.out _ _ (hHeld.up g3) (fun hHeld => ?_)
      clear hK K
      have hA3 := hA8.up g3
      have hs3 := g3.size
      obtain ⟨p, cp, rfl, hcp, hcm', hBy, _⟩ := hG3.shape
      clear hG3 g3 r8 gb hA8
      try simp only [Act.put]
      try simp only [List.setIfInBounds_toArray]
      try simp only [List.set]
      refine wpAnyH_take (i := 8) (v := ?v7) rfl (by kernel_rfl) (by kernel_rfl) (by kernel_rfl) (fun _ _ _ h => h) (Or.inl ⟨by kernel_rfl, ?h7⟩) hHeld ?_
      case h7 => intro u hSw; (try dsimp only at hSw); go_simp; try with_reducible rfl
      try simp only [List.getElem_toArray]
      try simp only [List.getElem_cons_succ]
      try simp only [List.getElem_cons_zero]
      try simp only [Act.put]
      try simp only [List.setIfInBounds_toArray]
      try simp only [List.set]
      refine wpAnyH_done (by kernel_rfl) ?_ _
      clear hHeld
      rw [HDl.out] at hcp ⊢
      have HBy : Hid (BytesIn (w.heap.size + 2) w3.heap.size w3 p ds) := hBy.mono (by simp; omega) (Nat.le_refl _)
      clear hBy hA
      go_wp2_with fail
      refine (HRl.out _ p cp hcp hcm' HBy.out.reads).mono ?_
      intro e w4 hp
      obtain ⟨a4, n4, c4, rfl, g4⟩ := HPo.out _ _ _ hp
      have hA := hA3.up g4
      have hs4 := g4.size
      have HBy : Hid (BytesIn (w.heap.size + 2) w4.heap.size w4 p ds) := (HBy.out.below g4).mono (Nat.le_refl _) g4.size
      clear hp g4 hA3
      have hg := hA.g
      have hs := hA.lt
      obtain ⟨a0, a1, a2, f0, f1, f2, _⟩ := hA
      have hu0 : (0 : Int) ≤ (u : Int) := by omega
      have huc : (u : Int) ≤ (cp : Int) := by omega
      go_wp2_with fail
      refine bodyPost_ret (v := .agg #[.int .i64 0, .slice p u cp, .slice none 0 0]) (by simp [results, Try.results26, go_sem, *]) rfl ?_
      rw [HQ2.out, HB2.out]
      have hlt : (ds.take u).length = u := by rw [List.length_take, HDl.out]; omega
      refine ⟨p, cp, none, 0, w4.heap.size, by rw [hlt]; rfl, by rw [hlt]; omega, Nat.le_refl _, hcm', by omega, by go_grown, ?_⟩
      have T : Turned (w.heap.size + 1) (w.heap.size + 2) w4 _ := (((Turned.refl _ _ w4).setCell (p := ⟨w.heap.size + 1, 0, none⟩) (by simp) (by simp) (.int .i64 0)).setCell (p := ⟨w.heap.size + 1, 1, none⟩) (by simp) (by simp) (.slice p u cp)).setCell (p := ⟨w.heap.size + 1, 2, none⟩) (by simp) (by simp) (.slice none 0 0)
      exact ⟨((HBy.out.take u).turned T (.inr (Nat.le_refl _))).mono (by omega) (Nat.le_refl _), .inl rfl, by omega, by simp⟩
  · have HQ2 : Hid (crQ xs ys k = q) := by show _ = _; rw [HQ.out, if_neg hq]
    have HB2 : Hid (crB xs ys k = []) := by show _ = _; unfold crB; rw [HQ2.out, if_neg hq]
    have hg := hA.g
    have hs := hA.lt
    obtain ⟨a0, a1, a2, f0, f1, f2, _⟩ := hA
    go_wp2_with fail
    refine bodyPost_ret (v := .agg #[.int .i64 q, .slice none 0 0, .slice none 0 0]) (by simp [results, Try.results26, go_sem, *]) rfl ?_
    rw [HQ2.out, HB2.out]
    exact ⟨none, 0, none, 0, w.heap.size, rfl, Nat.le_refl _, Nat.le_refl _, by omega, by omega, by go_grown, LogIn.none_ _ _ _ _ _ (by simp; omega)⟩

end Go.Proofs.Ytcjkjenebnodbaa
