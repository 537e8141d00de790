/-
  The model's l6Do: a change done to rising rows.
-/
import Derived.Test.YthhkgpflodeleaaFCHlq
import Derived.Test.YthhkgpflodeleaaFCChq

namespace Go.Proofs.Ythhkgpflodeleaa
open Go.RowKit Go.Maps
set_option linter.unusedVariables false

/-- What l6Do hands back. -/
def DoPost (rs : List Rw) (x : Chg) (w : World) (e : Ending) (w' : World) : Prop :=
  Below w.heap.size w w' ∧ ((fitB rs x = false ∧ e = .returned (.tuple #[.slice none 0 0, .bool false])) ∨ (fitB rs x = true ∧ ∃ g cap, e = .returned (.tuple #[.slice (some ⟨g, 0, none⟩) (doL rs x).length cap, .bool true]) ∧ w'.ownsRow w.heap.size 44 4 (.slice (some ⟨g, 0, none⟩) (doL rs x).length cap) (doL rs x).length (flat rwE (doL rs x))))

theorem atP_at {rs : List Rw} (hu : Uniq rs) {t k r : Int} (h : AtP rs t k r) {j : Nat} {y : Rw} (hy : rs[j]? = some y) : (y.t = t ∧ y.k = k) ↔ (j : Int) = r := by
  constructor
  · intro e
    exact atP_uniq hu (.inr ⟨j, y, rfl, hy, e.1, e.2⟩) h
  · rintro rfl
    rcases h with ⟨h, _⟩ | ⟨i, z, e, hz, e1, e2⟩
    · omega
    · have : j = i := by omega
      subst this
      rw [hy] at hz; cases hz; exact ⟨e1, e2⟩
theorem delL_snoc {rs : List Rw} {j : Nat} {y : Rw} (hy : rs[j]? = some y) (t k : Int) : delL (rs.take (j + 1)) t k = delL (rs.take j) t k ++ (if y.t = t ∧ y.k = k then [] else [y]) := by
  unfold delL
  rw [take_snoc hy, List.filter_append]
  congr 1
  by_cases e : y.t = t ∧ y.k = k
  · rw [if_pos e, List.filter_cons_of_neg (by simp [e])]; rfl
  · rw [if_neg e, List.filter_cons_of_pos (by by_cases e1 : y.t = t <;> by_cases e2 : y.k = k <;> simp [e1, e2] at e ⊢)]; rfl
theorem delL_le (rs : List Rw) (t k : Int) : (delL rs t k).length ≤ rs.length := List.length_filter_le _ _

set_option maxRecDepth 20000 in
set_option maxHeartbeats 4000000 in
theorem l6Do_any (g z n cap : Nat) (rs : List Rw) (b o : Nat) (x : Chg) (w : World) (hn : rs.length = n) (hm : n ≤ 900) (hs : rs.Pairwise rLt) (hq : chQ x = 0) (hR : Rs rwE 4 w (some ⟨g, z, none⟩) rs) (hC : ChC w b o x) :
    Calls Try.prog 33 #[.slice (some ⟨g, z, none⟩) n cap, .pointer (some ⟨b, o, none⟩)] w fun e w' => DoPost rs x w e w' := by
  have HN : Hid (rs.length = n) := hn
  have HR : Hid (∀ W, Below w.heap.size w W → Rs rwE 4 W (some ⟨g, z, none⟩) rs) := fun W hW => hR.below hW (Nat.le_refl _)
  have HC : Hid (∀ W, Below w.heap.size w W → ChC W b o x) := fun W hW => hC.below hW hC.lt
  have HU : Hid (Uniq rs) := uniq_of hs
  have hbk : Hid (x.was = true → x.b.t = kT x ∧ x.b.k = kK x) := fun hw => by
    obtain ⟨_, h2, _, _⟩ := chQ_zero hq
    unfold kT kK
    by_cases hi : x.is = true
    · rw [if_pos hi, if_pos hi]; exact h2 hw hi
    · rw [if_neg hi, if_neg hi]; exact ⟨rfl, rfl⟩
  have hkey := l6Key_any b o x w hC
  obtain ⟨kt, hkt⟩ : ∃ t, t = kT x := ⟨_, rfl⟩
  obtain ⟨kk, hkk⟩ : ∃ k, k = kK x := ⟨_, rfl⟩
  have HKT : Hid (kT x = kt) := hkt.symm
  have HKK : Hid (kK x = kk) := hkk.symm
  rw [← hkt, ← hkk] at hkey
  obtain ⟨r, hA⟩ := atP_ex rs kt kk
  have hat := fun (V : World) (hV : Below w.heap.size w V) => l6At_at (some ⟨g, z, none⟩) rs n cap kt kk r V HN.out (by omega) (HR.out _ hV) HU.out hA 0
  clear hkt hkk hs hq hR hC hn
  have HAt : Hid (AtP rs kt kk r) := hA
  have HD : Hid (doL rs x = if x.is = true then putL (delL rs kt kk) x.a else delL rs kt kk) := by show _ = _; unfold doL; rw [HKT.out, HKK.out]
  have HFt : Hid (fitB rs x = match fR rs kt kk with | none => !x.was | some y => x.was && rwEq y x.b) := by show _ = _; unfold fitB; rw [HKT.out, HKK.out]; rfl
  go_enter Try.func33, Try.ntmps33
  go_wp2_with (first | (go_at_call 51; refine hkey.mono ?_; rintro e w1 ⟨rfl, m1, rfl⟩) | fail)
  have g1 : Below w.heap.size w (w.drewN m1) := ⟨rfl, rfl, rfl, Nat.le_refl _, fun _ _ => rfl⟩
  have hcon0 := hat _ g1
  have X := HC.out _ g1
  generalize w.drewN m1 = w1 at g1 hcon0 X ⊢
  have hcon : Calls Try.prog 41 #[.slice (some ⟨g, z, none⟩) n cap, .int .i64 kt, .int .i64 kk] w1 fun e w' => e = .returned (.int .i64 r) ∧ w' = w1 := hcon0
  clear hcon0
  go_upto_region 3 with (go_at_call 41; refine hcon.mono ?_; rintro e w' ⟨rfl, hw'⟩; subst w')
  clear hcon hat hkey
  have hF := hA.f HU.out
  clear hA
  obtain ⟨x0, ⟨bt, bk, bv, bs⟩, x5, ⟨at', ak, av, sa⟩⟩ := x
  obtain ⟨c0, c1, c2, c3, c4, c5, c6, c7, c8, c9⟩ := X
  dsimp only at c0 c1 c2 c3 c4 c5 c6 c7 c8 c9 hbk HFt HD
  rcases hF with ⟨rfl, hf⟩ | ⟨i1, y, rfl, hy, hf⟩
  · cases x0
    · have HF : Hid (fitB rs ⟨false, ⟨bt, bk, bv, bs⟩, x5, ⟨at', ak, av, sa⟩⟩ = true) := by show _ = _; rw [HFt.out, hf]; rfl
      have hi0 : decide ((0 : Int) ≤ -1) = false := by decide
      go_quiet (fail)
      have gq : Below w.heap.size w (w1.drewN nq) := g1.trans ⟨rfl, rfl, rfl, Nat.le_refl _, fun _ _ => rfl⟩
      have hX := HC.out _ gq
      generalize w1.drewN nq = wq at gq hX ⊢
      clear c0 c1 c2 c3 c4 c5 c6 c7 c8 c9
      have gA : Below wq.heap.size wq (wq.alloc (.cells #[] 44)) := by go_grown
      have hL : (wq.alloc (.cells #[] 44)).ownsRow wq.heap.size 44 4 (.slice (some ⟨wq.heap.size, 0, none⟩) 0 0) (delL (rs.take 0) kt kk).length (flat rwE (delL (rs.take 0) kt kk)) := ownsRow_lit0 wq 44 4
      go_wp2_with fail
      go_loopw [10, 9] (fun i v wr => ∃ j : Nat, j ≤ n ∧ i = .int .i64 j ∧ Below wq.heap.size wq wr ∧ v.ownBlock ≠ none ∧ wr.ownsRow wq.heap.size 44 4 v (delL (rs.take j) kt kk).length (flat rwE (delL (rs.take j) kt kk))) (fun i _ _ => n - (intOf i).toNat)
      case atStart => exact ⟨0, Nat.zero_le _, rfl, gA, by simp [Value.ownBlock], hL⟩
      case round =>
        clear hL gA
        obtain ⟨j, hj, rfl, gr, hob, ho⟩ := hrel
        by_cases hlt : j < n
        · obtain ⟨zz, hz⟩ := at_lt (rs := rs) (i := j) (by rw [HN.out]; exact hlt)
          have Z := (HR.out _ (gq.trans (gr.mono gq.size))).rowAt hz
          have hjn : (j : Int) < (n : Int) := by omega
          have hiff := atP_at HU.out HAt.out hz
          have HSn := delL_snoc hz kt kk
          have hlen : (delL (rs.take j) kt kk).length + 1 ≤ 100000000 := by
            have := delL_le (rs.take j) kt kk
            rw [List.length_take] at this
            omega
          by_cases e : (j : Int) = (-1)
          · have HT : Hid (delL (rs.take (j + 1)) kt kk = delL (rs.take j) kt kk) := by show _ = _; rw [HSn, if_pos (hiff.2 e), List.append_nil]
            have d : ((j : Int) != (-1)) = false := by rw [bne_eq_false_iff_eq]; exact e
            have HO : Hid (wr.ownsRow wq.heap.size 44 4 u9 (delL (rs.take (j + 1)) kt kk).length (flat rwE (delL (rs.take (j + 1)) kt kk))) := by rw [HT.out]; exact ho
            have HB : Hid (u9.ownBlock ≠ none) := hob
            clear HSn hiff Z hz ho hob e
            go_wp2_with fail
            go_roundw
            case rel => exact ⟨j + 1, by omega, by go_num, gr, HB.out, HO.out⟩
            case measure => simp [intOf]; omega
          · have HT : Hid (delL (rs.take (j + 1)) kt kk = delL (rs.take j) kt kk ++ [zz]) := by show _ = _; rw [HSn, if_neg (fun h => e (hiff.1 h))]
            have d : ((j : Int) != (-1)) = true := by rw [bne_iff_ne]; exact e
            clear HSn hiff hz e
            generalize delL (rs.take j) kt kk = xs at ho HT hlen
            obtain ⟨zt, zk, zv, zs⟩ := zz
            obtain ⟨z0, z1, z2, z3⟩ := Z
            dsimp only at z0 z1 z2 z3
            have hgs := gr.size
            have HB : Hid (u9.ownBlock ≠ none) := hob
            clear hob
            go_wp2_with (at_builtin; refine wpList_append_sl elW _ rfl _ _ rfl wq.heap.size _ xs [⟨zt, zk, zv, zs⟩] (some ⟨wr.heap.size, 0, none⟩) 1 1 rfl rfl rfl (ownsRow_below ho (by go_grown)) (rs_one (enc := rwE) wr ⟨zt, zk, zv, zs⟩ 44) hlen (by simp; omega) ?_)
            intro v' w' ho' hg' hob'
            have ho2 : w'.ownsRow wq.heap.size 44 4 v' (delL (rs.take (j + 1)) kt kk).length (flat rwE (delL (rs.take (j + 1)) kt kk)) := by rw [HT.out, List.length_append]; exact ho'
            have hB2 : v'.ownBlock ≠ none := by
              rcases hob' with h | h
              · rw [h]; exact HB.out
              · rw [h]; simp
            have gr2 : Below wq.heap.size wq w' := Below.grown (gr.trans ((((Below.refl _ wr).alloc (Nat.le_refl _) _)).mono gr.size)) hg' (by simp; omega) (fun k hk => (ho.lt k hk).1)
            clear ho' hg' ho z0 z1 z2 z3 hob'
            go_wp2_with fail
            go_roundw
            case rel => exact ⟨j + 1, by omega, by go_num, gr2, hB2, ho2⟩
            case measure => simp [intOf]; omega
        · have e : rs.take j = rs := List.take_of_length_le (by rw [HN.out]; omega)
          rw [e] at ho
          have hjn : ¬ (j : Int) < (n : Int) := by omega
          obtain ⟨og, oc, rfl⟩ := ownsRow_some ho hob
          have hgw := gq.size
          have gw := gq.trans (gr.mono gq.size)
          have hX := hX.below gr hX.lt
          obtain ⟨c0, c1, c2, c3, c4, c5, c6, c7, c8, c9⟩ := hX
          dsimp only at c0 c1 c2 c3 c4 c5 c6 c7 c8 c9
          cases x5
          · have HO : Hid (wr.ownsRow w.heap.size 44 4 (.slice (some ⟨og, 0, none⟩) (delL rs kt kk).length oc) (delL rs kt kk).length (flat rwE (delL rs kt kk))) := ownsRow_base ho hgw
            have HD2 : Hid (doL rs ⟨false, ⟨bt, bk, bv, bs⟩, false, ⟨at', ak, av, sa⟩⟩ = delL rs kt kk) := HD.out
            generalize delL rs kt kk = os at HO HD2 ⊢
            obtain ⟨on, hon⟩ : ∃ on, on = os.length := ⟨_, rfl⟩
            have HON : Hid (os.length = on) := hon.symm
            rw [← hon]
            clear ho hob hon e
            go_wp2_with fail
            refine bodyPost_ret (v := .tuple #[.slice (some ⟨og, 0, none⟩) on oc, .bool true]) (by simp [results, Try.results33, go_sem]) rfl ?_
            refine ⟨gw, .inr ⟨HF.out, og, oc, ?_, ?_⟩⟩
            · rw [HD2.out, HON.out]
            · rw [HD2.out]; exact HO.out
          · obtain ⟨oa, oc', e', hcap, hin, _⟩ := SlIn.ofRow rwE_len ho
            cases e'
            have hol : (delL rs kt kk).length ≤ 1000 := by have := delL_le rs kt kk; rw [HN.out] at this; omega
            have hcon := l6Put_any og (delL rs kt kk).length oc (delL rs kt kk) at' ak av sa wr rfl hol hcap hin.reads
            have HD2 : Hid (doL rs ⟨false, ⟨bt, bk, bv, bs⟩, true, ⟨at', ak, av, sa⟩⟩ = putL (delL rs kt kk) ⟨at', ak, av, sa⟩) := HD.out
            generalize delL rs kt kk = os at hcon HD2 ⊢
            generalize os.length = on at hcon ⊢
            clear ho hob e hin
            go_wp2_with (go_at_call 42; refine hcon.mono ?_; rintro e w8 ⟨g8, c8', new, rfl, hP, b8, o8⟩)
            have HE : Hid (new = doL rs ⟨false, ⟨bt, bk, bv, bs⟩, true, ⟨at', ak, av, sa⟩⟩) := by show _ = _; rw [HD2.out]; exact hP.eq
            have HO : Hid (w8.ownsRow w.heap.size 44 4 (.slice (some ⟨g8, 0, none⟩) new.length c8') new.length (flat rwE new)) := ownsRow_base o8 gw.size
            have gw8 := gw.trans (b8.mono gw.size)
            obtain ⟨nn, hnn⟩ : ∃ nn, nn = new.length := ⟨_, rfl⟩
            have HNN : Hid (new.length = nn) := hnn.symm
            rw [← hnn]
            clear hP hcon o8 hnn b8
            go_wp2_with fail
            refine bodyPost_ret (v := .tuple #[.slice (some ⟨g8, 0, none⟩) nn c8', .bool true]) (by simp [results, Try.results33, go_sem]) rfl ?_
            refine ⟨gw8, .inr ⟨HF.out, g8, c8', ?_, ?_⟩⟩
            · rw [← HE.out, HNN.out]
            · rw [← HE.out]; exact HO.out
    · have HF : Hid (fitB rs ⟨true, ⟨bt, bk, bv, bs⟩, x5, ⟨at', ak, av, sa⟩⟩ = false) := by show _ = _; rw [HFt.out, hf]; rfl
      go_quiet (fail)
      have gq : Below w.heap.size w (w1.drewN nq) := g1.trans ⟨rfl, rfl, rfl, Nat.le_refl _, fun _ _ => rfl⟩
      go_wp2_with fail
      refine bodyPost_ret (v := .tuple #[.slice none 0 0, .bool false]) (by simp [results, Try.results33, go_sem]) rfl ?_
      exact ⟨gq, .inl ⟨HF.out, rfl⟩⟩
  · have hi1 : (i1 : Int) < (n : Int) := by have := (List.getElem?_eq_some_iff.1 hy).1; rw [HN.out] at this; omega
    have d1 : decide ((0 : Int) ≤ (i1 : Int)) = true := by simp
    cases x0
    · have HF : Hid (fitB rs ⟨false, ⟨bt, bk, bv, bs⟩, x5, ⟨at', ak, av, sa⟩⟩ = false) := by show _ = _; rw [HFt.out, hf]; rfl
      go_quiet (fail)
      have gq : Below w.heap.size w (w1.drewN nq) := g1.trans ⟨rfl, rfl, rfl, Nat.le_refl _, fun _ _ => rfl⟩
      go_wp2_with fail
      refine bodyPost_ret (v := .tuple #[.slice none 0 0, .bool false]) (by simp [results, Try.results33, go_sem]) rfl ?_
      exact ⟨gq, .inl ⟨HF.out, rfl⟩⟩
    · obtain ⟨_, e1, e2⟩ := fR_mem hf
      have e3 : bt = kt := (hbk.out rfl).1.trans HKT.out
      have e4 : bk = kk := (hbk.out rfl).2.trans HKK.out
      have P := (HR.out _ g1).rowAt hy
      have HFe : Hid (fitB rs ⟨true, ⟨bt, bk, bv, bs⟩, x5, ⟨at', ak, av, sa⟩⟩ = rwEq y ⟨bt, bk, bv, bs⟩) := by show _ = _; rw [HFt.out, hf]; rfl
      clear hf hy
      obtain ⟨yt, yk, yv, ys⟩ := y
      dsimp only at e1 e2
      subst e1 e2 e3 e4
      obtain ⟨p0, p1, p2, p3⟩ := P
      dsimp only at p0 p1 p2 p3
      by_cases hv : yv = bv
      · subst hv
        by_cases hsq : ys = bs
        · subst hsq
          have HF : Hid (fitB rs ⟨true, ⟨bt, bk, yv, ys⟩, x5, ⟨at', ak, av, sa⟩⟩ = true) := by show _ = _; rw [HFe.out]; simp [rwEq]
          go_quiet (fail)
          have gq : Below w.heap.size w (w1.drewN nq) := g1.trans ⟨rfl, rfl, rfl, Nat.le_refl _, fun _ _ => rfl⟩
          have hX := HC.out _ gq
          generalize w1.drewN nq = wq at gq hX ⊢
          clear c0 c1 c2 c3 c4 c5 c6 c7 c8 c9 p0 p1 p2 p3
          have gA : Below wq.heap.size wq (wq.alloc (.cells #[] 44)) := by go_grown
          have hL : (wq.alloc (.cells #[] 44)).ownsRow wq.heap.size 44 4 (.slice (some ⟨wq.heap.size, 0, none⟩) 0 0) (delL (rs.take 0) bt bk).length (flat rwE (delL (rs.take 0) bt bk)) := ownsRow_lit0 wq 44 4
          go_wp2_with fail
          go_loopw [10, 9] (fun i v wr => ∃ j : Nat, j ≤ n ∧ i = .int .i64 j ∧ Below wq.heap.size wq wr ∧ v.ownBlock ≠ none ∧ wr.ownsRow wq.heap.size 44 4 v (delL (rs.take j) bt bk).length (flat rwE (delL (rs.take j) bt bk))) (fun i _ _ => n - (intOf i).toNat)
          case atStart => exact ⟨0, Nat.zero_le _, rfl, gA, by simp [Value.ownBlock], hL⟩
          case round =>
            clear hL gA
            obtain ⟨j, hj, rfl, gr, hob, ho⟩ := hrel
            by_cases hlt : j < n
            · obtain ⟨zz, hz⟩ := at_lt (rs := rs) (i := j) (by rw [HN.out]; exact hlt)
              have Z := (HR.out _ (gq.trans (gr.mono gq.size))).rowAt hz
              have hjn : (j : Int) < (n : Int) := by omega
              have hiff := atP_at HU.out HAt.out hz
              have HSn := delL_snoc hz bt bk
              have hlen : (delL (rs.take j) bt bk).length + 1 ≤ 100000000 := by
                have := delL_le (rs.take j) bt bk
                rw [List.length_take] at this
                omega
              by_cases e : (j : Int) = (i1 : Int)
              · have HT : Hid (delL (rs.take (j + 1)) bt bk = delL (rs.take j) bt bk) := by show _ = _; rw [HSn, if_pos (hiff.2 e), List.append_nil]
                have d : ((j : Int) != (i1 : Int)) = false := by rw [bne_eq_false_iff_eq]; exact e
                have HO : Hid (wr.ownsRow wq.heap.size 44 4 u9 (delL (rs.take (j + 1)) bt bk).length (flat rwE (delL (rs.take (j + 1)) bt bk))) := by rw [HT.out]; exact ho
                have HB : Hid (u9.ownBlock ≠ none) := hob
                clear HSn hiff Z hz ho hob e
                go_wp2_with fail
                go_roundw
                case rel => exact ⟨j + 1, by omega, by go_num, gr, HB.out, HO.out⟩
                case measure => simp [intOf]; omega
              · have HT : Hid (delL (rs.take (j + 1)) bt bk = delL (rs.take j) bt bk ++ [zz]) := by show _ = _; rw [HSn, if_neg (fun h => e (hiff.1 h))]
                have d : ((j : Int) != (i1 : Int)) = true := by rw [bne_iff_ne]; exact e
                clear HSn hiff hz e
                generalize delL (rs.take j) bt bk = xs at ho HT hlen
                obtain ⟨zt, zk, zv, zs⟩ := zz
                obtain ⟨z0, z1, z2, z3⟩ := Z
                dsimp only at z0 z1 z2 z3
                have hgs := gr.size
                have HB : Hid (u9.ownBlock ≠ none) := hob
                clear hob
                go_wp2_with (at_builtin; refine wpList_append_sl elW _ rfl _ _ rfl wq.heap.size _ xs [⟨zt, zk, zv, zs⟩] (some ⟨wr.heap.size, 0, none⟩) 1 1 rfl rfl rfl (ownsRow_below ho (by go_grown)) (rs_one (enc := rwE) wr ⟨zt, zk, zv, zs⟩ 44) hlen (by simp; omega) ?_)
                intro v' w' ho' hg' hob'
                have ho2 : w'.ownsRow wq.heap.size 44 4 v' (delL (rs.take (j + 1)) bt bk).length (flat rwE (delL (rs.take (j + 1)) bt bk)) := by rw [HT.out, List.length_append]; exact ho'
                have hB2 : v'.ownBlock ≠ none := by
                  rcases hob' with h | h
                  · rw [h]; exact HB.out
                  · rw [h]; simp
                have gr2 : Below wq.heap.size wq w' := Below.grown (gr.trans ((((Below.refl _ wr).alloc (Nat.le_refl _) _)).mono gr.size)) hg' (by simp; omega) (fun k hk => (ho.lt k hk).1)
                clear ho' hg' ho z0 z1 z2 z3 hob'
                go_wp2_with fail
                go_roundw
                case rel => exact ⟨j + 1, by omega, by go_num, gr2, hB2, ho2⟩
                case measure => simp [intOf]; omega
            · have e : rs.take j = rs := List.take_of_length_le (by rw [HN.out]; omega)
              rw [e] at ho
              have hjn : ¬ (j : Int) < (n : Int) := by omega
              obtain ⟨og, oc, rfl⟩ := ownsRow_some ho hob
              have hgw := gq.size
              have gw := gq.trans (gr.mono gq.size)
              have hX := hX.below gr hX.lt
              obtain ⟨c0, c1, c2, c3, c4, c5, c6, c7, c8, c9⟩ := hX
              dsimp only at c0 c1 c2 c3 c4 c5 c6 c7 c8 c9
              cases x5
              · have HO : Hid (wr.ownsRow w.heap.size 44 4 (.slice (some ⟨og, 0, none⟩) (delL rs bt bk).length oc) (delL rs bt bk).length (flat rwE (delL rs bt bk))) := ownsRow_base ho hgw
                have HD2 : Hid (doL rs ⟨true, ⟨bt, bk, yv, ys⟩, false, ⟨at', ak, av, sa⟩⟩ = delL rs bt bk) := HD.out
                generalize delL rs bt bk = os at HO HD2 ⊢
                obtain ⟨on, hon⟩ : ∃ on, on = os.length := ⟨_, rfl⟩
                have HON : Hid (os.length = on) := hon.symm
                rw [← hon]
                clear ho hob hon e
                go_wp2_with fail
                refine bodyPost_ret (v := .tuple #[.slice (some ⟨og, 0, none⟩) on oc, .bool true]) (by simp [results, Try.results33, go_sem]) rfl ?_
                refine ⟨gw, .inr ⟨HF.out, og, oc, ?_, ?_⟩⟩
                · rw [HD2.out, HON.out]
                · rw [HD2.out]; exact HO.out
              · obtain ⟨oa, oc', e', hcap, hin, _⟩ := SlIn.ofRow rwE_len ho
                cases e'
                have hol : (delL rs bt bk).length ≤ 1000 := by have := delL_le rs bt bk; rw [HN.out] at this; omega
                have hcon := l6Put_any og (delL rs bt bk).length oc (delL rs bt bk) at' ak av sa wr rfl hol hcap hin.reads
                have HD2 : Hid (doL rs ⟨true, ⟨bt, bk, yv, ys⟩, true, ⟨at', ak, av, sa⟩⟩ = putL (delL rs bt bk) ⟨at', ak, av, sa⟩) := HD.out
                generalize delL rs bt bk = os at hcon HD2 ⊢
                generalize os.length = on at hcon ⊢
                clear ho hob e hin
                go_wp2_with (go_at_call 42; refine hcon.mono ?_; rintro e w8 ⟨g8, c8', new, rfl, hP, b8, o8⟩)
                have HE : Hid (new = doL rs ⟨true, ⟨bt, bk, yv, ys⟩, true, ⟨at', ak, av, sa⟩⟩) := by show _ = _; rw [HD2.out]; exact hP.eq
                have HO : Hid (w8.ownsRow w.heap.size 44 4 (.slice (some ⟨g8, 0, none⟩) new.length c8') new.length (flat rwE new)) := ownsRow_base o8 gw.size
                have gw8 := gw.trans (b8.mono gw.size)
                obtain ⟨nn, hnn⟩ : ∃ nn, nn = new.length := ⟨_, rfl⟩
                have HNN : Hid (new.length = nn) := hnn.symm
                rw [← hnn]
                clear hP hcon o8 hnn b8
                go_wp2_with fail
                refine bodyPost_ret (v := .tuple #[.slice (some ⟨g8, 0, none⟩) nn c8', .bool true]) (by simp [results, Try.results33, go_sem]) rfl ?_
                refine ⟨gw8, .inr ⟨HF.out, g8, c8', ?_, ?_⟩⟩
                · rw [← HE.out, HNN.out]
                · rw [← HE.out]; exact HO.out
        · have dd : ¬ ys.toList = bs.toList := fun h => hsq (by rw [ByteArray.toList_eq, ByteArray.toList_eq] at h; exact ByteArray.ext (Array.toList_inj.1 h))
          have HF : Hid (fitB rs ⟨true, ⟨bt, bk, yv, bs⟩, x5, ⟨at', ak, av, sa⟩⟩ = false) := by show _ = _; rw [HFe.out]; simp [rwEq, hsq]
          go_quiet (fail)
          have gq : Below w.heap.size w (w1.drewN nq) := g1.trans ⟨rfl, rfl, rfl, Nat.le_refl _, fun _ _ => rfl⟩
          go_wp2_with fail
          refine bodyPost_ret (v := .tuple #[.slice none 0 0, .bool false]) (by simp [results, Try.results33, go_sem]) rfl ?_
          exact ⟨gq, .inl ⟨HF.out, rfl⟩⟩
      · have dd : (yv == bv) = false := by simpa using hv
        have HF : Hid (fitB rs ⟨true, ⟨bt, bk, bv, bs⟩, x5, ⟨at', ak, av, sa⟩⟩ = false) := by show _ = _; rw [HFe.out]; simp [rwEq, hv]
        go_quiet (fail)
        have gq : Below w.heap.size w (w1.drewN nq) := g1.trans ⟨rfl, rfl, rfl, Nat.le_refl _, fun _ _ => rfl⟩
        go_wp2_with fail
        refine bodyPost_ret (v := .tuple #[.slice none 0 0, .bool false]) (by simp [results, Try.results33, go_sem]) rfl ?_
        exact ⟨gq, .inl ⟨HF.out, rfl⟩⟩

end Go.Proofs.Ythhkgpflodeleaa
