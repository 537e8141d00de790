/-
  The model's CrashLog.
-/
import Derived.Test.YtcjkjenebnodbaaQIcr
import Derived.Test.YtcjkjenebnodbaaQRlh
import Derived.Test.YtcjkjenebnodbaaQRck

namespace Go.Proofs.Ytcjkjenebnodbaa
open Go.RowKit
set_option linter.unusedVariables false

set_option maxRecDepth 10000 in
set_option maxHeartbeats 2000000 in
theorem l5Crash_any (x y : Option Addr) (xs ys : List Int) (n c m d kk : Nat) (w : World) (hn : xs.length = n) (hm : ys.length = m) (hnm : n + m ≤ 16000) (hkm : kk ≤ m) (hd : m ≤ d) (hdm : d ≤ 9223372036854775807) (hx : Reads w x xs) (hy : Reads w y ys) (hxb : ∀ z ∈ xs, 0 ≤ z ∧ z ≤ 255) (hyb : ∀ z ∈ ys, 0 ≤ z ∧ z ≤ 255) :
    Calls Try.prog 86 #[.agg #[.slice x n c, .slice y m d], .int .i64 kk] w fun e w' => LvPost w ((xs ++ ys.take kk).take (logU (xs ++ ys.take kk))) [] e w' := by
  have HCp : Hid (∀ X, Below w.heap.size w X → Calls Try.prog 119 #[.slice x n c] X fun e w' => ∃ v, e = .returned v ∧ Below X.heap.size X w' ∧ Gb X.heap.size w' v xs) := fun X g => l2Copy_gen x xs n c X hn (by omega) (hx.below g (Nat.le_refl _))
  have HYr : Hid (∀ X, Below w.heap.size w X → Reads X y (ys.take kk)) := fun X g => (hy.below g (Nat.le_refl _)).take kk
  have HN : Hid (xs.length = n) := hn
  have HK : Hid ((ys.take kk).length = kk) := by show _ = _; rw [List.length_take]; omega
  have hdl : (xs ++ ys.take kk).length = n + kk := by rw [List.length_append, HK.out, hn]
  have HDl : Hid ((xs ++ ys.take kk).length = n + kk) := hdl
  have hul := logU_le (xs ++ ys.take kk)
  rw [hdl] at hul
  have HRl : Hid (∀ X (p : Option Addr) (cp : Nat), n + kk ≤ cp → cp ≤ 9223372036854775807 → Reads X p (xs ++ ys.take kk) → Calls Try.prog 89 #[.slice p (n + kk) cp] X fun e w' => L5Short X (xs ++ ys.take kk) e w') := fun X p cp h1 h2 h3 => by
    rw [← hdl] at h1 ⊢
    exact (l5Read_any (xs ++ ys.take kk) p cp X (by omega) h1 h2 h3 (fun z hz => (List.mem_append.1 hz).elim (hxb z) (fun h => hyb z (List.mem_of_mem_take h)))).mono (fun _ _ h => h.short)
  have HPo : Hid (∀ X e w', L5Short X (xs ++ ys.take kk) e w' → ∃ a c n, e = .returned (.tuple #[.slice a n c, .int .i64 (logU (xs ++ ys.take kk))]) ∧ Below X.heap.size X w') := fun _ _ _ h => h
  generalize logU (xs ++ ys.take kk) = u at hul HPo ⊢
  clear hx hy hn hm hxb hyb hdl
  generalize ys.take kk = ts at HYr HK HDl HRl HPo ⊢
  have hk0 : (0 : Int) ≤ (kk : Int) := by omega
  have hkd : (kk : Int) ≤ (d : Int) := by omega
  go_enter Try.func86, Try.ntmps86
  go_upto_region 1 with (fail)
  generalize hY : World.alloc _ _ = Y
  have hA : A2 w (w.heap.size + 1) Y := by rw [← hY]; exact ⟨by simp [go_sem], by simp [go_sem], by simp [go_sem], by simp [go_sem], by go_grown⟩
  have r : LgAt Y w.heap.size x n c y m d := by rw [← hY]; exact ⟨by simp [go_sem], by simp [go_sem]⟩
  clear hY
  refine wp_region_held_drew (S := fun V => LgAt V w.heap.size x n c y m d) (by kernel_rfl) (r.up (Below.refl _ _).drew) (fun hHeld => ?_)
  have hA := hA.up (Below.refl Y.heap.size Y).drew
  generalize Y.drew = D at hHeld hA ⊢
  clear r
  have hD := hHeld
  refine wpAnyH_take (i := 0) (v := ?v1) rfl (by kernel_rfl) (by kernel_rfl) (by kernel_rfl) (fun _ _ _ h => h) (Or.inl ⟨by kernel_rfl, ?h1⟩) hHeld ?_
  case h1 => intro u hSw; (try dsimp only at hSw); go_simp; try with_reducible rfl
  try simp only [List.getElem_toArray]
  try simp only [List.getElem_cons_succ]
  try simp only [List.getElem_cons_zero]
  try simp only [Act.put]
  try simp only [List.setIfInBounds_toArray]
  try simp only [List.set]
  refine wpAnyH_take (i := 1) (v := ?v2) rfl (by kernel_rfl) (by kernel_rfl) (by kernel_rfl) (fun _ _ _ h => h) (Or.inl ⟨by kernel_rfl, ?h2⟩) hHeld ?_
  case h2 => intro u hSw; obtain ⟨q0, q1⟩ := hSw; go_simp; try with_reducible rfl
  try simp only [List.getElem_toArray]
  try simp only [List.getElem_cons_succ]
  try simp only [List.getElem_cons_zero]
  try simp only [Act.put]
  try simp only [List.setIfInBounds_toArray]
  try simp only [List.set]
  refine wpAnyH_take (i := 3) (v := ?v3) rfl (by kernel_rfl) (by kernel_rfl) (by kernel_rfl) (fun _ _ _ h => h) (Or.inl ⟨by kernel_rfl, ?h3⟩) hHeld ?_
  case h3 => intro u hSw; (try dsimp only at hSw); go_simp; try with_reducible rfl
  try simp only [List.getElem_toArray]
  try simp only [List.getElem_cons_succ]
  try simp only [List.getElem_cons_zero]
  try simp only [Act.put]
  try simp only [List.setIfInBounds_toArray]
  try simp only [List.set]
  refine wpAnyH_take (i := 4) (v := ?v4) rfl (by kernel_rfl) (by kernel_rfl) (by kernel_rfl) (fun _ _ _ h => h) (Or.inl ⟨by kernel_rfl, ?h4⟩) hHeld ?_
  case h4 => intro u hSw; obtain ⟨q0, q1⟩ := hSw; go_simp; try with_reducible rfl
  try simp only [List.getElem_toArray]
  try simp only [List.getElem_cons_succ]
  try simp only [List.getElem_cons_zero]
  try simp only [Act.put]
  try simp only [List.setIfInBounds_toArray]
  try simp only [List.set]
  refine wpAnyH_take (i := 5) (v := ?v5) rfl (by kernel_rfl) (by kernel_rfl) (by kernel_rfl) (fun _ _ _ h => h) (Or.inl ⟨by kernel_rfl, ?h5⟩) hHeld ?_
  case h5 => intro u hSw; (try dsimp only at hSw); go_simp; try with_reducible rfl
  try simp only [List.getElem_toArray]
  try simp only [List.getElem_cons_succ]
  try simp only [List.getElem_cons_zero]
  try simp only [Act.put]
  try simp only [List.setIfInBounds_toArray]
  try simp only [List.set]
  refine wpAnyH_take (i := 6) (v := ?v6) rfl (by kernel_rfl) (by kernel_rfl) (by kernel_rfl) (fun _ _ _ h => h) (Or.inl ⟨by kernel_rfl, ?h6⟩) hHeld ?_
  case h6 => intro u hSw; (try dsimp only at hSw); go_simp; try with_reducible rfl
  try simp only [List.getElem_toArray]
  try simp only [List.getElem_cons_succ]
  try simp only [List.getElem_cons_zero]
  try simp only [Act.put]
  try simp only [List.setIfInBounds_toArray]
  try simp only [List.set]
  refine wpAnyH_ready (rs := [2]) (by kernel_rfl) (by simp) ?_
  refine AllReadyH.cons rfl (fun K hK => ?_) AllReadyH.nil
  go_simp
  go_wp2_with (go_at_call 119; refine (HCp.out _ hA.g).mono ?_; rintro e w3 ⟨v3, rfl, g3, hG3⟩)
  refine hK.out _ _ (hHeld.up g3) (fun hHeld => ?_)
  clear hK K
  have hA3 := hA.up g3
  try simp only [Act.put]
  try simp only [List.setIfInBounds_toArray]
  try simp only [List.set]
  refine wpAnyH_ready (rs := [7]) (by kernel_rfl) (by simp) ?_
  refine AllReadyH.cons rfl (fun K hK => ?_) AllReadyH.nil
  rw [if_pos (by kernel_rfl)]
  refine wp_append_bytes _ _ _ rfl D.heap.size v3 xs ts y kk d rfl rfl HK.out hG3 (HYr.out _ hA3.g) (by rw [HN.out, HK.out]; omega) g3.size ?_
  intro v4 w4 hG4 hgr4 hat4
  have g4 : Below D.heap.size D w4 := Below.grown g3 hgr4 g3.size (fun q e => (World.ownsRow.lt hG3 q e).1)
  obtain ⟨p, cp, rfl, hcp, hcm', hBy, _⟩ := hG4.shape
  rw [HDl.out] at hcp ⊢
  have hA4 := hA.up g4
  refine hK.out _ _ (hD.up g4) (fun hHeld => ?_)
  clear hK K hgr4 hat4 hG3 hG4 g3 hA3
  try simp only [Act.put]
  try simp only [List.setIfInBounds_toArray]
  try simp only [List.set]
  refine wpAnyH_take (i := 8) (v := ?v7) rfl (by kernel_rfl) (by kernel_rfl) (by kernel_rfl) (fun _ _ _ h => h) (Or.inl ⟨by kernel_rfl, ?h7⟩) hHeld ?_
  case h7 => intro u hSw; (try dsimp only at hSw); go_simp; try with_reducible rfl
  try simp only [List.getElem_toArray]
  try simp only [List.getElem_cons_succ]
  try simp only [List.getElem_cons_zero]
  try simp only [Act.put]
  try simp only [List.setIfInBounds_toArray]
  try simp only [List.set]
  refine wpAnyH_done (by kernel_rfl) ?_ _
  clear hHeld hD
  have hDs := hA.lt
  have hs4 := g4.size
  have HBy : Hid (BytesIn (w.heap.size + 2) w4.heap.size w4 p (xs ++ ts)) := hBy.mono (by omega) (Nat.le_refl _)
  clear hBy hA g4
  go_wp2_with fail
  refine (HRl.out _ p cp hcp hcm' HBy.out.reads).mono ?_
  intro e w5 hp
  obtain ⟨a5, c5, n5, rfl, g5⟩ := HPo.out _ _ _ hp
  have hA := hA4.up g5
  have hs5 := g5.size
  have HBy : Hid (BytesIn (w.heap.size + 2) w5.heap.size w5 p (xs ++ ts)) := (HBy.out.below g5).mono (Nat.le_refl _) g5.size
  clear hp g5 hA4
  have hg := hA.g
  have hs := hA.lt
  obtain ⟨a0, a1, f0, f1, _⟩ := hA
  have hu0 : (0 : Int) ≤ (u : Int) := by omega
  have huc : (u : Int) ≤ (cp : Int) := by omega
  go_wp2_with fail
  refine bodyPost_ret (v := .agg #[.slice p u cp, .slice none 0 0]) (by simp [results, Try.results86, go_sem, *]) rfl ?_
  have hlt : ((xs ++ ts).take u).length = u := by rw [List.length_take, HDl.out]; omega
  refine ⟨p, cp, none, 0, w5.heap.size, by rw [hlt]; rfl, by rw [hlt]; omega, Nat.le_refl _, hcm', by omega, by go_grown, ?_⟩
  have T : Turned (w.heap.size + 1) (w.heap.size + 2) w5 _ := ((Turned.refl _ _ w5).setCell (p := ⟨w.heap.size + 1, 0, none⟩) (by simp) (by simp) (.slice p u cp)).setCell (p := ⟨w.heap.size + 1, 1, none⟩) (by simp) (by simp) (.slice none 0 0)
  exact ⟨((HBy.out.take u).turned T (.inr (Nat.le_refl _))).mono (by omega) (Nat.le_refl _), .inl rfl, by omega, by simp⟩

set_option maxHeartbeats 1000000 in
theorem specCrashLog_any (x y : Option Addr) (xs ys : List Int) (c d : Nat) (k : Int) (w : World) (hn1 : xs.length ≤ 1048576) (hm1 : ys.length ≤ 1048576) (hc : xs.length ≤ c) (hd : ys.length ≤ d) (hcm : c ≤ 9223372036854775807) (hdm : d ≤ 9223372036854775807) (hx : Reads w x xs) (hy : Reads w y ys) (hxb : ∀ z ∈ xs, 0 ≤ z ∧ z ≤ 255) (hyb : ∀ z ∈ ys, 0 ≤ z ∧ z ≤ 255) :
    Calls Try.prog 27 #[.agg #[.slice x xs.length c, .slice y ys.length d], .int .i64 k] w fun e w' => LgPost w (crQ xs ys k) (crB xs ys k) [] e w' := by
  have HL : Hid (∀ X, Below w.heap.size w X → LgAt X w.heap.size x xs.length c y ys.length d → Calls Try.prog 79 #[.pointer (some ⟨w.heap.size, 0, none⟩)] X fun e w' => e = .returned (.int .i64 (lfQ xs ys)) ∧ Below X.heap.size X w') := fun X g r => l5Fault_any w.heap.size x y xs ys c d X hn1 hm1 hc hd hcm hdm (hx.below g (Nat.le_refl _)) (hy.below g (Nat.le_refl _)) hxb hyb r
  have HC : Hid (xs.length + ys.length ≤ 16000 → ∀ kk : Nat, kk ≤ ys.length → ∀ X, Below w.heap.size w X → Calls Try.prog 86 #[.agg #[.slice x xs.length c, .slice y ys.length d], .int .i64 kk] X fun e w' => LvPost X ((xs ++ ys.take kk).take (logU (xs ++ ys.take kk))) [] e w') := fun hl kk hk X g => l5Crash_any x y xs ys _ c _ d kk X rfl rfl hl hk hd hdm (hx.below g (Nat.le_refl _)) (hy.below g (Nat.le_refl _)) hxb hyb
  have HQ : Hid (crQ xs ys k = if lfQ xs ys = 0 then (if inR k 0 ys.length then 0 else 3) else lfQ xs ys) := rfl
  have HSm : Hid (lfQ xs ys = 0 → xs.length + ys.length ≤ 16000) := lf_small
  clear hx hy hxb hyb hc hd
  generalize lfQ xs ys = q at HL HQ HSm ⊢
  generalize xs.length = n at HL HC HSm hn1 ⊢
  generalize ys.length = m at HL HC HQ HSm hm1 ⊢
  go_enter Try.func27, Try.ntmps27
  go_upto_region 1 with (fail)
  generalize hY : World.alloc _ _ = Y
  have hA : A3 w (w.heap.size + 1) Y := by rw [← hY]; exact ⟨by simp [go_sem], by simp [go_sem], by simp [go_sem], by simp [go_sem], by simp [go_sem], by simp [go_sem], by go_grown⟩
  have r : LgAt Y w.heap.size x n c y m d := by rw [← hY]; exact ⟨by simp [go_sem], by simp [go_sem]⟩
  clear hY
  go_wp2_with fail
  refine (HL.out _ hA.g r).mono ?_
  rintro e w1 ⟨rfl, g1⟩
  have hA := hA.up g1
  have r := r.up g1
  clear g1
  obtain ⟨r0, r1⟩ := r
  by_cases hq : q = 0
  · subst hq
    have HS := HSm.out rfl
    obtain ⟨t, ht⟩ : ∃ t, inR k 0 m = t := ⟨_, rfl⟩
    have HW : Hid (∀ X, Calls Try.prog 85 #[.int .i64 k, .int .i64 0, .int .i64 m] X fun e w' => e = .returned (.bool t) ∧ w' = X) := fun X => by rw [← ht]; exact l1In_any k 0 m X
    cases t with
    | false =>
      have HQ2 : Hid (crQ xs ys k = 3) := by show _ = _; rw [HQ.out, if_pos rfl, ht]; rfl
      have HB2 : Hid (crB xs ys k = []) := by show _ = _; unfold crB; rw [HQ2.out]; rfl
      clear HQ ht
      go_wp2_with fail
      refine (HW.out _).mono ?_
      rintro e w2 ⟨rfl, hw⟩
      subst w2
      have hg := hA.g
      have hs := hA.lt
      obtain ⟨a0, a1, a2, f0, f1, f2, _⟩ := hA
      go_wp2_with fail
      refine bodyPost_ret (v := .agg #[.int .i64 3, .slice none 0 0, .slice none 0 0]) (by simp [results, Try.results27, go_sem, *]) rfl ?_
      rw [HQ2.out, HB2.out]
      exact ⟨none, 0, none, 0, w.heap.size, rfl, Nat.le_refl _, Nat.le_refl _, by omega, by omega, by go_grown, LogIn.none_ _ _ _ _ _ (by simp; omega)⟩
    | true =>
      have HQ2 : Hid (crQ xs ys k = 0) := by show _ = _; rw [HQ.out, if_pos rfl, ht]; rfl
      obtain ⟨kk, hk, hkm⟩ := inR_nat ht
      subst hk
      have HB2 : Hid (crB xs ys (kk : Int) = (xs ++ ys.take kk).take (logU (xs ++ ys.take kk))) := by show _ = _; unfold crB crD; rw [HQ2.out]; simp
      have HC2 : Hid (∀ X, Below w.heap.size w X → Calls Try.prog 86 #[.agg #[.slice x n c, .slice y m d], .int .i64 kk] X fun e w' => LvPost X ((xs ++ ys.take kk).take (logU (xs ++ ys.take kk))) [] e w') := HC.out HS kk hkm
      clear HQ ht HC HSm
      generalize (xs ++ ys.take kk).take (logU (xs ++ ys.take kk)) = us at HC2 HB2
      go_wp2_with fail
      refine (HW.out _).mono ?_
      rintro e w2 ⟨rfl, hw⟩
      subst w2
      go_wp2_with fail
      refine (HC2.out _ hA.g).mono ?_
      intro e w3 hp
      obtain ⟨p, cp, rr, dr, mid, rfl, hcp, hdr, hcm', hdm', g3, hG⟩ := hp
      have hlt := hA.lt
      have hA := hA.up g3
      have HG : Hid (LogIn (w.heap.size + 2) mid w3.heap.size w3 p rr us []) := hG.mono (by omega) (Nat.le_refl _)
      have hg := hA.g
      obtain ⟨a0, a1, a2, f0, f1, f2, _⟩ := hA
      have hs : w.heap.size + 1 < w3.heap.size := World.block_lt_of_cell? w3 _ a0
      clear hG g3 r0 r1
      generalize hk : us.length = j at hcp ⊢
      have HK : Hid (us.length = j) := hk
      clear hk
      go_wp2_with fail
      refine bodyPost_ret (v := .agg #[.int .i64 0, .slice p j cp, .slice rr 0 dr]) (by simp [results, Try.results27, go_sem, *]) rfl ?_
      rw [HQ2.out, HB2.out]
      refine ⟨p, cp, rr, dr, mid, by rw [HK.out]; rfl, by rw [HK.out]; exact hcp, hdr, hcm', hdm', by go_grown, ?_⟩
      have T : Turned (w.heap.size + 1) (w.heap.size + 2) w3 _ := (((Turned.refl _ _ w3).setCell (p := ⟨w.heap.size + 1, 0, none⟩) (by simp) (by simp) (.int .i64 0)).setCell (p := ⟨w.heap.size + 1, 1, none⟩) (by simp) (by simp) (.slice p j cp)).setCell (p := ⟨w.heap.size + 1, 2, none⟩) (by simp) (by simp) (.slice rr 0 dr)
      exact (HG.out.turned T (.inr (Nat.le_refl _))).mono (by omega) (by simp)
  · have HQ2 : Hid (crQ xs ys k = q) := by show _ = _; rw [HQ.out, if_neg hq]
    have HB2 : Hid (crB xs ys k = []) := by show _ = _; unfold crB; rw [HQ2.out, if_neg hq]
    have hg := hA.g
    have hs := hA.lt
    obtain ⟨a0, a1, a2, f0, f1, f2, _⟩ := hA
    go_wp2_with fail
    refine bodyPost_ret (v := .agg #[.int .i64 q, .slice none 0 0, .slice none 0 0]) (by simp [results, Try.results27, go_sem, *]) rfl ?_
    rw [HQ2.out, HB2.out]
    exact ⟨none, 0, none, 0, w.heap.size, rfl, Nat.le_refl _, Nat.le_refl _, by omega, by omega, by go_grown, LogIn.none_ _ _ _ _ _ (by simp; omega)⟩

end Go.Proofs.Ytcjkjenebnodbaa

/-
  The model's ReadLog.
-/
namespace Go.Proofs.Ytcjkjenebnodbaa
open Go.RowKit
set_option linter.unusedVariables false

set_option maxRecDepth 10000 in
set_option maxHeartbeats 1000000 in
theorem specReadLog_any (zs : List Int) (a : Option Addr) (cap : Nat) (w : World) (hm : zs.length ≤ 1048576) (hcap : zs.length ≤ cap) (hcm : cap ≤ 9223372036854775807) (hf : Reads w a zs) (hz : ∀ z ∈ zs, 0 ≤ z ∧ z ≤ 255) :
    Calls Try.prog 29 #[.slice a zs.length cap] w fun e w' => RlPost w zs e w' := by
  by_cases hbig : 16000 < zs.length
  · have HE : Hid (rlQ zs = 2 ∧ rlU zs = 0 ∧ rlN zs = 0) := ⟨by unfold rlQ; rw [if_pos hbig], by unfold rlU; rw [if_pos hbig], by unfold rlN; rw [if_pos hbig]⟩
    have hb : (16000 : Int) < (zs.length : Int) := by omega
    clear hf hz
    go_enter Try.func29, Try.ntmps29
    go_wp2_with fail
    refine bodyPost_ret (v := .agg #[.int .i64 2, .int .i64 0, .slice none 0 0]) (by simp [results, Try.results29, go_sem]) rfl ?_
    unfold RlPost
    rw [HE.out.1, HE.out.2.1, HE.out.2.2]
    exact ⟨none, 0, fun _ => ⟨none, 0, fun _ => none, fun _ => 0, fun _ => 0, 0, 0⟩, rfl, by go_grown, .inl rfl, Nat.le_refl _, by omega⟩
  · have HE : Hid (rlQ zs = 0 ∧ rlU zs = logU zs ∧ rlN zs = lgN zs) := ⟨by unfold rlQ; rw [if_neg hbig], by unfold rlU; rw [if_neg hbig], by unfold rlN; rw [if_neg hbig]⟩
    have hb : ¬ ((16000 : Int) < (zs.length : Int)) := by omega
    have HC : Hid (∀ X, Below w.heap.size w X → Calls Try.prog 89 #[.slice a zs.length cap] X fun e w' => L5Post X zs e w') := fun X g => l5Read_any zs a cap X hm hcap hcm (hf.below g (Nat.le_refl _)) hz
    have HPo : Hid (∀ X e w', L5Post X zs e w' → ∃ a c D, e = .returned (.tuple #[.slice a (lgN zs) c, .int .i64 (logU zs)]) ∧ Below X.heap.size X w' ∧ Rlt X.heap.size w' (.slice a (lgN zs) c) (lgN zs) (lgR zs) D) := fun X e w' h => by
      obtain ⟨v, D, h1, h2, h3⟩ := h
      obtain ⟨av, cv, hv⟩ := h3.form
      subst hv
      exact ⟨av, cv, D, h1, h2, h3⟩
    clear hf hz
    generalize logU zs = u at HE HPo
    generalize lgN zs = n at HE HPo
    go_enter Try.func29, Try.ntmps29
    go_upto_region 1 with (fail)
    generalize hY : World.alloc w _ = Y
    have g : Below w.heap.size w Y := by rw [← hY]; go_grown
    have hs : Y.heap.size = w.heap.size + 1 := by rw [← hY]; simp
    have a0 : Y.cell? ⟨w.heap.size, 0, none⟩ = some (.int .i64 0) := by rw [← hY]; simp [go_sem]
    have a1 : Y.cell? ⟨w.heap.size, 1, none⟩ = some (.int .i64 0) := by rw [← hY]; simp [go_sem]
    have a2 : Y.cell? ⟨w.heap.size, 2, none⟩ = some (.slice none 0 0) := by rw [← hY]; simp [go_sem]
    have f0 : Y.frozen? ⟨w.heap.size, 0, none⟩ = false := by rw [← hY]; simp [go_sem]
    have f1 : Y.frozen? ⟨w.heap.size, 1, none⟩ = false := by rw [← hY]; simp [go_sem]
    have f2 : Y.frozen? ⟨w.heap.size, 2, none⟩ = false := by rw [← hY]; simp [go_sem]
    clear hY
    go_wp2_with fail
    refine (HC.out _ g).mono ?_
    intro e w2 hp
    obtain ⟨av, cv, D, rfl, g2, hR⟩ := HPo.out _ _ _ hp
    have hcv := hR.cap
    have f0 := (g2.frozen (World.block_lt_of_cell? Y _ a0)).trans f0
    have f1 := (g2.frozen (World.block_lt_of_cell? Y _ a1)).trans f1
    have f2 := (g2.frozen (World.block_lt_of_cell? Y _ a2)).trans f2
    have a0 := cellUp g2 a0
    have a1 := cellUp g2 a1
    have a2 := cellUp g2 a2
    have hs2 := g2.size
    rw [hs] at hR
    have HO : Hid (OwnRS (w.heap.size + 1) w2.heap.size w2 av n (lgR zs) D) := hR.ownAt
    have g := g.trans (g2.mono g.size)
    clear g2 hp hR
    go_wp2_with fail
    refine bodyPost_ret (v := .agg #[.int .i64 0, .int .i64 u, .slice av n cv]) (by simp [results, Try.results29, go_sem, *]) rfl ?_
    unfold RlPost
    rw [HE.out.1, HE.out.2.1, HE.out.2.2]
    refine ⟨av, cv, D, rfl, by go_grown, ?_, hcv.1, hcv.2⟩
    have T : Turned w.heap.size (w.heap.size + 1) w2 _ := (((Turned.refl _ _ w2).setCell (p := ⟨w.heap.size, 0, none⟩) (by simp) (by simp) (.int .i64 0)).setCell (p := ⟨w.heap.size, 1, none⟩) (by simp) (by simp) (.int .i64 u)).setCell (p := ⟨w.heap.size, 2, none⟩) (by simp) (by simp) (.slice av n cv)
    exact (HO.out.turned T (.inr (Nat.le_refl _))).mono (by omega) (by simp)

/-- Records that were read are few and small. -/
theorem lgR_small (zs : List Int) (i : Nat) : (lgR zs i).n + took (lgR zs i).Z (lgR zs i).n ≤ 1048576 := by
  show nR (from' zs i) + took (rZ (from' zs i)) (nR (from' zs i)) ≤ 1048576
  unfold nR
  split
  · rename_i h
    have h1 := rf_ok (rec_ok h.2.1).2.2.2.2.2.2
    omega
  · simp [took]
theorem lgR_took (zs : List Int) : ∀ j, j ≤ lgN zs → tookR (lgR zs) j ≤ lp zs j
  | 0, _ => Nat.le_refl _
  | j + 1, h => by
    have ih := lgR_took zs j (by omega)
    have hk := lg_ok zs j (by omega)
    have h1 := ok_len hk
    have h2 : (rdB (from' zs j)).length = 7 + 2 * cnt (from' zs j) + took (rZ (from' zs j)) (cnt (from' zs j)) := packB_len _ _ _ _ _ _
    have h3 := (rr_yes hk).2.2.2.2.2
    have h4 : tookR (lgR zs) (j + 1) = tookR (lgR zs) j + 3 + nR (from' zs j) + took (rZ (from' zs j)) (nR (from' zs j)) := rfl
    have h5 : lp zs (j + 1) = lp zs j + len0 (from' zs j) := rfl
    rw [h4, h5, h3]
    omega
theorem rlN_small (zs : List Int) : rlN zs ≤ 1048576 ∧ tookR (lgR zs) (rlN zs) ≤ 8000000 := by
  unfold rlN
  split
  · simp [tookR]
  · have h1 := lgN_le zs
    have h2 := lgR_took zs (lgN zs) (Nat.le_refl _)
    have h3 := (lp_le zs (lgN zs) (Nat.le_refl _)).2
    omega

end Go.Proofs.Ytcjkjenebnodbaa
