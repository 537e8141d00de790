/-
  The model's UpdateEdits.
-/
import Derived.Test.YtnfolgoloaeanaaGreatUMup
import Derived.Test.YtnfolgoloaeanaaGreatUUpz
import Derived.Test.YtnfolgoloaeanaaGreatUPgs
import Derived.Test.YtnfolgoloaeanaaGreatUMfa
import Derived.Deep.SlicePairs
import Derived.OpenShut
import Derived.ProofKit

namespace Go.Proofs.YtnfolgoloaeanaaGreat
open Go.RowKit
set_option linter.unusedVariables false
set_option maxRecDepth 20000

set_option maxHeartbeats 4000000 in
theorem specUpdateEdits_any (a : Option Addr) (ps : List (List Int)) (n c : Nat) (t k v : Int) (s : ByteArray) (w : World) (hn : ps.length = n) (hm : n ≤ 1048576) (hp : PgOk ps) (hr : PgRdN w a ps) (hrd : PgRead w a ps) (hs : s.size ≤ maxLen) :
    Calls Tryz.prog 21 #[.slice a n c, .agg #[.int .i64 t, .int .i64 k, .int .i64 v, .string s]] w fun e w' => AePost (uQ ps t k v s) (uE ps t k v s) (uP ps t k v s) w e w' := by
  have HN : Hid (ps.length = n) := hn
  have HRn : Hid (PgRdN w a ps) := hr
  have HRd : Hid (PgRead w a ps) := hrd
  clear hn hr hrd
  go_enter Tryz.func21, Tryz.ntmps21
  go_upto_region 1 with (fail)
  generalize hY : World.alloc _ _ = Y
  have gY : Below w.heap.size w Y := by rw [← hY]; go_grown
  have hYs : Y.heap.size = w.heap.size + 2 := by rw [← hY]; simp
  have hrow : RowC Y w.heap.size 0 ⟨t, k, v, s⟩ := by rw [← hY]; exact ⟨by simp [go_sem], by simp [go_sem], by simp [go_sem], by simp [go_sem]⟩
  have hO : Rs3 Y (w.heap.size + 1) := by rw [← hY]; exact ⟨by simp [go_sem], by simp [go_sem], by simp [go_sem], by simp [go_sem], by simp [go_sem], by simp [go_sem]⟩
  clear hY
  obtain ⟨rb, hrb⟩ : ∃ rb, w.heap.size + 1 = rb := ⟨_, rfl⟩
  simp only [hrb] at hO ⊢
  have hrw : w.heap.size < rb := by omega
  have hry : rb < Y.heap.size := by omega
  have hby : w.heap.size < Y.heap.size := by omega
  clear hrb hYs
  have HO : Hid (∀ V, Below Y.heap.size Y V → Rs3 V rb) := fun V hV => hO.below hV hry
  have HRw : Hid (∀ V, Below Y.heap.size Y V → RowC V w.heap.size 0 ⟨t, k, v, s⟩) := fun V hV => hrow.below hV hby
  have HG : Hid (∀ V, Below Y.heap.size Y V → Below w.heap.size w V) := fun V hV => gY.trans (hV.mono gY.size)
  have HBad : Hid (∀ q V, Below Y.heap.size Y V → Calls Tryz.prog 57 #[.int .i64 q] V fun e w' => e = .returned (.agg #[.int .i64 q, .slice none 0 0, .slice none 0 0]) ∧ Below w.heap.size w w' ∧ Rs3 w' rb) := fun q V hV => by
    refine (l7Bad_any q V).mono ?_
    rintro e w' ⟨rfl, hb⟩
    have h2 := hV.trans (hb.mono hV.size)
    exact ⟨rfl, HG.out _ h2, HO.out _ h2⟩
  have hlf := l6Fault_any a ps n c Y HN.out (by omega) hp (HRd.out.below gY (Nat.le_refl _))
  clear hrow hO gY
  go_upto_region 2 with (go_at_call 56; refine hlf.mono ?_; rintro e w1 ⟨rfl, g1⟩; clear hlf)
  by_cases hv : viewQ ps = 0
  · rw [hv]
    have hft := l1Fault_any w.heap.size t k v s w1 (HRw.out _ g1).at0 hs
    have HV : Hid (viewQ ps = 0) := hv
    clear hv
    go_upto_region 5 with (go_at_call 58; refine hft.mono ?_; rintro e w2 ⟨rfl, hw2⟩; subst w2; clear hft)
    by_cases hf : faultI t k v s = 0
    · rw [hf]
      have HF : Hid (faultI t k v s = 0) := hf
      obtain ⟨⟨t0, t1⟩, ⟨k0, k1⟩, _, _⟩ := fault_bounds hf
      have hi := key_in ⟨t0, t1⟩ ⟨k0, k1⟩
      obtain ⟨q1, q2, q3, q4⟩ := view_zero HV.out
      have h12 : n ≤ 12 := by rw [← HN.out]; exact q1
      have hfd := l6Find_any a ps n c t k w1 HN.out h12 hp (HRd.out.below (HG.out _ g1) (Nat.le_refl _)) q3 q4
      have HDz : deZ ps t k = fndS (snF (mvF (spotsOf 0 ps)) (spotsOf 0 ps)) t k := by unfold deZ; rw [if_pos HV.out, if_pos hi]
      rw [← HDz] at hfd
      obtain ⟨c0, c1, c2, c3⟩ := HRw.out _ g1
      dsimp only at c0 c1 c2 c3
      rw [Nat.zero_add] at c1
      clear c2 c3 q1 q2 q3 q4 HDz hi hf
      cases hz : deZ ps t k with
      | none =>
        rw [hz] at hfd
        simp only [Option.getD_none, Option.isSome_none, zSp, zC, spE] at hfd
        have HE : Hid _ := u_none HV.out HF.out hz
        clear hz
        go_upto_region 8 with (go_at_call 59; refine hfd.mono ?_; rintro e w3 ⟨rfl, g3⟩; clear hfd)
        generalize hU : World.alloc w3 _ = U
        have gU : Below w3.heap.size w3 U := by rw [← hU]; go_grown
        clear hU c0 c1
        have gA : Below Y.heap.size Y U := (g1.trans (g3.mono g1.size)).trans (gU.mono (Nat.le_trans g1.size g3.size))
        have hbd := HBad.out 4 U gA
        clear gA gU g1 g3
        go_wp2_with (go_at_call 57; refine hbd.mono ?_)
        rintro e w5 ⟨rfl, g5, hO5⟩
        have hgs := g5.size
        obtain ⟨c0, c1, c2, f0, f1, f2⟩ := hO5
        clear hbd
        go_wp2_with fail
        refine bodyPost_ret (v := .agg #[.int .i64 4, .slice none 0 0, .slice none 0 0]) (by simp [results, Tryz.results21, go_sem, *]) rfl ?_
        rw [HE.out.1]
        exact AePost.nil HE.out.2.1 HE.out.2.2 (by go_grown)
      | some z =>
        rw [hz] at hfd
        simp only [Option.getD_some, Option.isSome_some, spE] at hfd
        have HE : Hid _ := u_some HV.out HF.out hz
        obtain ⟨_, _, _, pn, sn, zs, hZ⟩ := deZ_at hp hz
        rw [hZ.p, hZ.s] at hfd
        have HZ : Hid (FndAt ps z pn sn zs) := hZ
        obtain ⟨zf, hzf⟩ : ∃ x, z.c.f = x := ⟨_, rfl⟩
        obtain ⟨zcp, hzp⟩ : ∃ x, z.c.p = x := ⟨_, rfl⟩
        obtain ⟨zcl, hzl⟩ : ∃ x, z.c.l = x := ⟨_, rfl⟩
        obtain ⟨zt, hzt⟩ : ∃ x, z.c.t = x := ⟨_, rfl⟩
        obtain ⟨zk, hzk⟩ : ∃ x, z.c.k = x := ⟨_, rfl⟩
        obtain ⟨zv, hzv⟩ : ∃ x, z.c.v = x := ⟨_, rfl⟩
        obtain ⟨zst, hzs⟩ : ∃ x, z.c.s = x := ⟨_, rfl⟩
        rw [hzf, hzp, hzl, hzt, hzk, hzv, hzs] at hfd
        have HZs : Hid (∀ (bb : Nat) (U : World), SpF bb pn sn zf zcp zcl zt zk zv zst U → SpF bb pn sn z.c.f z.c.p z.c.l z.c.t z.c.k z.c.v z.c.s U) := fun bb U h => by rw [hzf, hzp, hzl, hzt, hzk, hzv, hzs]; exact h
        clear hz hZ hzf hzp hzl hzt hzk hzv hzs
        go_upto_region 8 with (go_at_call 59; refine hfd.mono ?_; rintro e w3 ⟨rfl, g3⟩; clear hfd)
        generalize hU : World.alloc w3 _ = U
        have gU : Below w3.heap.size w3 U := by rw [← hU]; go_grown
        have hsp : SpF w3.heap.size pn sn zf zcp zcl zt zk zv zst U := by rw [← hU]; exact ⟨by simp [go_sem], by simp [go_sem], by simp [go_sem], by simp [go_sem], by simp [go_sem], by simp [go_sem], by simp [go_sem], by simp [go_sem], by simp [go_sem]⟩
        clear hU c0 c1
        have gA : Below Y.heap.size Y U := (g1.trans (g3.mono g1.size)).trans (gU.mono (Nat.le_trans g1.size g3.size))
        have hin := l7Update_any a ps n c w3.heap.size w.heap.size 0 z pn sn zs t k v s U HN.out h12 hp (HRn.out.below (HG.out _ gA) (Nat.le_refl _)) HV.out HZ.out (HZs.out _ _ hsp) (HRw.out _ gA) HF.out
        clear g1 g3 gU hsp
        generalize w3.heap.size = sb9 at hin ⊢
        go_wp2_with (go_at_call 68; refine hin.mono ?_)
        rintro e w5 ⟨v1, V1, v2, V2, rfl, g5, hA⟩
        have hYU := gA.size
        have gA5 : Below Y.heap.size Y w5 := gA.trans (g5.mono hYU)
        have g6 := HG.out _ gA5
        have hgs := g6.size
        obtain ⟨c0, c1, c2, f0, f1, f2⟩ := HO.out _ gA5
        obtain ⟨a1, k1, hv1, _⟩ := hA.e.own hA.s1
        obtain ⟨a2, k2, hv2, _⟩ := hA.p.own hA.s2
        have HA : Hid _ := hA.res (m := w.heap.size) (rb := rb) (by omega) (by omega) (uzQ ps z t k v s)
        generalize uzQ ps z t k v s = q at HE HA ⊢
        generalize uzE ps z t k v s = es' at HE HA hv1 ⊢
        generalize uzP ps z t k v s = qs' at HE HA hv2 ⊢
        subst hv1 hv2
        clear hA hin gA g5 gA5
        go_wp2_with fail
        refine bodyPost_ret (v := .agg #[.int .i64 q, .slice a1 es'.length k1, .slice a2 qs'.length k2]) (by simp [results, Tryz.results21, go_sem, *]) rfl ?_
        exact AePost.of HE.out.1 HE.out.2.1 HE.out.2.2 (by go_grown) HA.out
    · have HE : Hid _ := u_fault HV.out hf
      have dv : (faultI t k v s != 0) = true := by simpa using hf
      generalize faultI t k v s = qv at dv HE ⊢
      have hbd := HBad.out qv w1 g1
      clear hf g1
      go_wp2_with (go_at_call 57; refine hbd.mono ?_; rintro e w5 ⟨rfl, g5, hO5⟩; obtain ⟨c0, c1, c2, f0, f1, f2⟩ := hO5; clear hbd)
      have hgs := g5.size
      refine bodyPost_ret (v := .agg #[.int .i64 qv, .slice none 0 0, .slice none 0 0]) (by simp [results, Tryz.results21, go_sem, *]) rfl ?_
      rw [HE.out.1]
      exact AePost.nil HE.out.2.1 HE.out.2.2 (by go_grown)
  · have HE : Hid _ := u_view (t := t) (k := k) (v := v) (s := s) hv
    have dv : (viewQ ps != 0) = true := by simpa using hv
    generalize viewQ ps = qv at dv HE ⊢
    have hbd := HBad.out qv w1 g1
    clear hv g1
    go_wp2_with (go_at_call 57; refine hbd.mono ?_; rintro e w5 ⟨rfl, g5, hO5⟩; obtain ⟨c0, c1, c2, f0, f1, f2⟩ := hO5; clear hbd)
    have hgs := g5.size
    refine bodyPost_ret (v := .agg #[.int .i64 qv, .slice none 0 0, .slice none 0 0]) (by simp [results, Tryz.results21, go_sem, *]) rfl ?_
    rw [HE.out.1]
    exact AePost.nil HE.out.2.1 HE.out.2.2 (by go_grown)


theorem GdS.dp {s : St} {k : Nat} (h : GdS s k) {p sl : Nat} {old : List Int} (hF : Fine (drpP old sl)) : GdS (dpS s p sl old) (k + 1) := by
  refine ⟨fun zs hz => ?_, by show (s.2.set p _).length ≤ 12; rw [List.length_set]; exact h.l, by show (s.1 ++ [_]).length ≤ k + 1; simp; exact h.e, fun x hx => ?_⟩
  · rcases List.mem_or_eq_of_mem_set hz with h1 | h1
    · exact h.p zs h1
    · rw [h1]; exact hF
  · rcases List.mem_append.1 hx with h1 | h1
    · exact h.b x h1
    · rw [List.mem_singleton.1 h1]; exact Nat.le_of_eq hF.pg.len
theorem GdS.mw {s : St} {k : Nat} (h : GdS s k) {pn sn hp hs : Nat} {cs zs ys : List Int} (hz : s.2[pn]? = some zs) (hzs : HasS zs sn) (hy : s.2[hp]? = some ys) (hys : HasS ys hs) (hc : ∀ z ∈ cs, 0 ≤ z ∧ z ≤ 255) (h1 : 1 ≤ cs.length) (h20 : cs.length ≤ 20) : GdS (mwS s pn sn hp hs cs).1 (k + 60) := by
  have h12 := h.l
  obtain ⟨⟨s2, ro⟩, hpl⟩ : ∃ r, plS hp cs s.2.length 0 s = r := ⟨_, rfl⟩
  have hG2 : GdS s2 (k + 2 * s.2.length + 1) := by have h3 := GdS.pl hp hc h1 h20 s.2.length 0 s k h (by simp); rw [hpl] at h3; exact h3
  have hK2 : Keep s s2 := by have h3 := Keep.pl hp s.2.length 0 s h.p hc h1 (by simp); rw [hpl] at h3; exact h3
  cases ro with
  | none => rw [mv_none hpl]; exact hG2.mono (by omega)
  | some x =>
    have hx := pl_place hp hc h1 s.2.length 0 s h.p h.l (by simp) x (by rw [hpl])
    obtain ⟨zs2, hz2, hh2⟩ := hK2 pn sn zs hz hzs
    have hso := stub_ok hx.1 hx.2
    have hpn12 : pn < 12 := by have h3 := (List.getElem?_eq_some_iff.1 hz2).1; have h4 := hG2.l; omega
    have hG3 := hG2.st hpn12 (hG2.p.at hz2) hh2 hso.2 (by rw [hso.1]; omega)
    have hK3 := Keep.st (s := s2) (cs := stbC x) (hG2.p.at hz2) hz2 hh2 (by rw [hso.1]; omega)
    rw [mv_some hpl hz2]
    dsimp only
    split
    · exact hG3.mono (by omega)
    · obtain ⟨ys3, hy3, hh3⟩ := (hK2.trans hK3) hp hs ys hy hys
      rw [getD_of hy3]
      exact (hG3.dp (fine_drop (hG3.p.at hy3) hh3.lt)).mono (by omega)
theorem GdS.up {s : St} {k : Nat} (h : GdS s k) {pn sn hp hs : Nat} {c1 c2 zs ys : List Int} (hz : s.2[pn]? = some zs) (hzs : HasS zs sn) (hy : s.2[hp]? = some ys) (hys : HasS ys hs) (hc : ∀ z ∈ c1, 0 ≤ z ∧ z ≤ 255) (h1 : 1 ≤ c1.length) (hc2 : ∀ z ∈ c2, 0 ≤ z ∧ z ≤ 255) (h2 : 1 ≤ c2.length) (h20 : c2.length ≤ 20) : GdS (upS s pn sn hp hs c1 c2).1 (k + 70) := by
  have hp12 : hp < 12 := by have h3 := (List.getElem?_eq_some_iff.1 hy).1; have h4 := h.l; omega
  obtain ⟨⟨s1, bo⟩, hst⟩ : ∃ r, stS s hp hs ys c1 = r := ⟨_, rfl⟩
  have hG1 : GdS s1 (k + 2) := by have h3 := h.st (cs := c1) hp12 (h.p.at hy) hys hc h1; rw [hst] at h3; exact h3
  have hK1 : Keep s s1 := by have h3 := Keep.st (s := s) (cs := c1) (h.p.at hy) hy hys h1; rw [hst] at h3; exact h3
  cases bo with
  | true => rw [up_true hy hst]; exact hG1.mono (by omega)
  | false =>
    rw [up_false hy hst]
    obtain ⟨zs1, hz1, hh1⟩ := hK1 pn sn zs hz hzs
    obtain ⟨ys1, hy1, hh2⟩ := hK1 hp hs ys hy hys
    exact (hG1.mw hz1 hh1 hy1 hh2 hc2 h2 h20).mono (by omega)
theorem u_big {ps : List (List Int)} (hp : PgOk ps) (t k v : Int) (s : ByteArray) : bigE (uE ps t k v s) ≤ 2000000 ∧ bigQ (uP ps t k v s) ≤ 13000000 := by
  by_cases hv : viewQ ps = 0
  · by_cases hf : faultI t k v s = 0
    · cases hz : deZ ps t k with
      | none => obtain ⟨_, e1, e2⟩ := u_none hv hf hz; rw [e1, e2]; exact big_nil
      | some z =>
        obtain ⟨_, e1, e2⟩ := u_some hv hf hz
        rw [e1, e2]
        obtain ⟨_, _, _, pn, sn, zs, hZ⟩ := deZ_at hp hz
        obtain ⟨hq, hs', ys, f1, f2, f3, _, hCy, _, _⟩ := hZ.homU
        obtain ⟨⟨t0, t1⟩, ⟨k0, k1⟩, ⟨v0, v1⟩, hs8⟩ := fault_bounds hf
        have hG := GdS.start hp hv
        have hfl : 0 ≤ flgU pn sn hq hs' ∧ flgU pn sn hq hs' ≤ 2 := by unfold flgU; split <;> omega
        have hb : GdS (uzR ps z t k v s).1 70 := by
          unfold uzR
          split
          · exact hG.mono (by omega)
          · rw [f1, f2, f3]
            have hl2 := cellB_len 2 t k v s
            have hl1 := cellB_len (flgU pn sn hq hs') t k v s
            exact (hG.up (pn := pn) (sn := sn) (hp := hq) (hs := hs') hZ.c.at' hZ.c.hasS hCy.at' hCy.hasS (cellB_bd hfl.1 hfl.2 t0 t1 k0 k1 v0 v1 hs8) (by omega) (cellB_bd (by omega) (by omega) t0 t1 k0 k1 v0 v1 hs8) (by omega) (by omega)).mono (by omega)
        have hbb := hb.big (by omega)
        unfold uzE uzP
        split
        · exact hbb
        · exact big_nil
    · obtain ⟨_, e1, e2⟩ := u_fault hv hf; rw [e1, e2]; exact big_nil
  · obtain ⟨_, e1, e2⟩ := u_view (t := t) (k := k) (v := v) (s := s) hv; rw [e1, e2]; exact big_nil

open Go.ChangeShapes Go.WideShapes Go.RowKit

theorem open_bytes_one {H : Type} {enc : TypeId × Value → H} {W : World} {base : Nat} {held : Bool} {fuel : Nat} {v : Value} {x : DataW H × List MemPlace}
    (h : DataW.trod enc Tryz.prog W base (fun _ => true) held fuel 22 [v] = some x) : ∃ a zs c, v = .slice a zs.length c ∧ zs.length ≤ c ∧ zs.length ≤ 9223372036854775807 ∧ Reads W a zs ∧ ∀ z ∈ zs, 0 ≤ z ∧ z ≤ 255 := by
  have hml : maxLen = 9223372036854775807 := by decide
  rcases open_ints Tryz.underlying22 Tryz.underlying5 (by kernel_rfl) h with ⟨hcs, _⟩ | ⟨u, l', c', zs, hcs, _, hl', hm', hz, _, hc', hwz⟩
  · simp only [List.cons.injEq, and_true] at hcs
    exact ⟨none, [], 0, hcs, Nat.le_refl _, by simp, .inl rfl, fun z hz => by simp at hz⟩
  · simp only [List.cons.injEq, and_true] at hcs
    have hrow : IsRow .u8 W (some u) l' c' zs := .inr ⟨u, rfl, hl', hm', by simpa using hz, hc', hwz⟩
    obtain ⟨h1, h2, h3, h4⟩ := isRow_reads hrow
    exact ⟨some u, zs.take l', c', by rw [hcs]; simp only [h1], by rw [h1]; exact h2, by rw [h1]; omega, h3, h4⟩

theorem open_pages {H : Type} {enc : TypeId × Value → H} {W : World} {base : Nat} {held : Bool} {fuel : Nat} {a : Option Addr} {len cap : Nat} {x : DataW H × List MemPlace}
    (h : DataW.trod enc Tryz.prog W base (fun _ => true) held fuel 24 [.slice a len cap] = some x) : ∃ ps, IsPages W a len ps := by
  have hml : maxLen = 9223372036854775807 := by decide
  rcases Go.Deep.open_slice Tryz.underlying24 h with ⟨hcs, _⟩ | ⟨y, l, c, m, n, Dd, Pl, hcs, hb, hl, hm, hmm, _, hx⟩
  · simp only [List.cons.injEq, Value.slice.injEq, and_true] at hcs
    obtain ⟨rfl, rfl, rfl⟩ := hcs
    exact ⟨[], .inl rfl, rfl, by omega, fun r hr => by simp at hr⟩
  · simp only [List.cons.injEq, Value.slice.injEq, and_true] at hcs
    obtain ⟨rfl, rfl, rfl⟩ := hcs
    simp only [if_true] at hmm
    subst hmm
    have ce : Tryz.prog.cellsOf 22 = 1 := by kernel_rfl
    have each : ∀ i, i < len → ∃ q : Option Addr × List Int × Nat, W.cell? (y.add i) = some (.slice q.1 q.2.1.length q.2.2) ∧ q.2.1.length ≤ q.2.2 ∧ q.2.1.length ≤ 9223372036854775807 ∧ Reads W q.1 q.2.1 ∧ ∀ z ∈ q.2.1, 0 ≤ z ∧ z ≤ 255 := by
      intro i hi
      obtain ⟨cs', h1, h2⟩ := hx i (by omega)
      rw [ce] at h1
      obtain ⟨_, hlen, hcell⟩ := World.cells?_some h1
      obtain ⟨v, rfl⟩ : ∃ v, cs' = [v] := by
        match cs', hlen with
        | [v], _ => exact ⟨v, rfl⟩
      obtain ⟨a', zs, c', rfl, h3, h4, h5, h6⟩ := open_bytes_one h2
      have k0 := hcell 0 (by omega)
      rw [Go.Deep.add_add] at k0
      exact ⟨(a', zs, c'), by simpa using k0, h3, h4, h5, h6⟩
    obtain ⟨q, hq⟩ := Go.Deep.choose_lt each
    refine ⟨(List.range len).map (fun i => (q i).2.1), ?_, by simp, by omega, ?_⟩
    · by_cases h0 : len = 0
      · subst h0; exact .inl rfl
      · obtain ⟨b, off, spot⟩ := y
        have hc0 := (hq 0 (by omega)).1
        have hspot : spot = none := by simpa [Addr.add] using World.cell?_spot hc0
        subst hspot
        have ea : ∀ i, (⟨b, off, none⟩ : Addr).add i = ⟨b, off + i, none⟩ := by intro i; unfold Addr.add; split <;> simp_all
        refine .inr ⟨b, off, rfl, fun i r hr => ?_⟩
        obtain ⟨hi, rfl⟩ := list_of_fun (fun i => (q i).2.1) len hr
        obtain ⟨q0, q1, _, q3, _⟩ := hq i hi
        rw [ea] at q0
        exact ⟨_, _, q0, q1, q3⟩
    · intro r hr
      obtain ⟨i, hi, rfl⟩ := List.mem_map.1 hr
      obtain ⟨_, _, q2, _, q4⟩ := hq i (by simpa using hi)
      exact ⟨q2, q4⟩


theorem Turned.widen {lo hi lo' hi' : Nat} {w w' : World} (h : Turned lo hi w w') (h1 : lo' ≤ lo) (h2 : hi ≤ hi') : Turned lo' hi' w w' := ⟨h.os, h.tape, h.output, h.size, fun k hk hn => h.block k hk (by omega)⟩

set_option maxHeartbeats 1000000 in
theorem markByteSS_any (g n c hi : Nat) (ps : List (List Int)) (F : Nat → Nat) (w : World) (hn : ps.length = n) (hm : n ≤ 1048576) (hp : PgOk ps) (hP : PartP w g n n ps F) (hhi : ∀ i zs, i < n → ps[i]? = some zs → zs ≠ [] → F i < hi) :
    Calls Tryz.prog 41 #[.slice (some ⟨g, 0, none⟩) n c, .int .i64 1] w fun e w' => ∃ r : Int, e = .returned (.int .i64 r) ∧ 0 ≤ r ∧ Turned (g + 1) hi w w' := by
  have HN : Hid (ps.length = n) := hn
  have HP : Hid (PgOk ps) := hp
  have HPt : Hid (PartP w g n n ps F) := hP
  have HHi : Hid (∀ i zs, i < n → ps[i]? = some zs → zs ≠ [] → F i < hi) := hhi
  clear hn hp hP hhi
  go_enter Tryz.func41, Tryz.ntmps41
  go_wp2_with fail
  go_loopw [5, 1] (fun i kk wr => ∃ (j : Nat) (r : Int), j ≤ n ∧ i = .int .i64 j ∧ kk = .int .i64 r ∧ 0 ≤ r ∧ r ≤ 1 + 1048576 * j ∧ Turned (g + 1) hi w wr ∧ Hid (∀ i zs, j ≤ i → ps[i]? = some zs → BytesIn (F i) (F i + 1) wr (some ⟨F i, 0, none⟩) zs)) (fun i _ _ => n - (intOf i).toNat)
  case atStart => exact ⟨0, 1, Nat.zero_le _, rfl, rfl, by omega, by omega, Turned.refl _ _ _, fun i zs _ hz => (HPt.out.c i zs (by rw [← HN.out]; exact (List.getElem?_eq_some_iff.1 hz).1) hz).2⟩
  case round =>
    obtain ⟨j, r, hj, rfl, rfl, hr0, hr1, ht, hB⟩ := hrel
    by_cases hlt : j < n
    · obtain ⟨zs, hzs⟩ := at_lt' (rs := ps) (i := j) (by rw [HN.out]; exact hlt)
      have hz1 := (HP.out zs (List.mem_of_getElem? hzs)).1
      have c0 := ht.cell (HPt.out.c j zs hlt hzs).1 (.inl (by simp))
      have hb := hB.out j zs (Nat.le_refl _) hzs
      have hFg := HPt.out.fr j hlt
      have hjn : (j : Int) < (n : Int) := by omega
      have hrb : r ≤ 140737488351232 := by omega
      by_cases hne : zs = []
      · subst hne
        have hb0 : BytesIn 0 0 wr (some ⟨F j, 0, none⟩) [] := .inl rfl
        go_wp2_with fail
        refine (markByteS_any _ 0 0 [] 0 0 r _ rfl (by omega) hr0 hrb hb0).mono ?_
        rintro e w2 ⟨rfl, t2, _⟩
        have HB2 : Hid (∀ i zs, j + 1 ≤ i → ps[i]? = some zs → BytesIn (F i) (F i + 1) w2 (some ⟨F i, 0, none⟩) zs) := fun i zs hi hz => (hB.out i zs (by omega) hz).turned t2 (.inr (Nat.zero_le _))
        have ht2 := ht.trans (Turned.widen (lo' := g + 1) (hi' := hi) ⟨t2.os, t2.tape, t2.output, t2.size, fun k hk _ => t2.block k hk (by omega)⟩ (Nat.le_refl _) (Nat.le_refl _))
        clear t2 c0 hb hb0 ht hB
        go_wp2_with fail
        go_roundw
        case rel => exact ⟨j + 1, r, by omega, by go_num, by simp, hr0, by omega, ht2, HB2⟩
        case measure => simp [intOf]; omega
      · have hFl := HHi.out j zs hlt hzs hne
        obtain ⟨zl, hzl⟩ : ∃ zl, zl = zs.length := ⟨_, rfl⟩
        rw [← hzl] at c0
        have hzl2 : zl ≤ 1048576 := by rw [hzl]; exact hz1
        have HZ : Hid (zs.length = zl) := hzl.symm
        clear hzl hz1
        go_wp2_with fail
        refine (markByteS_any _ (F j) (F j + 1) zs zl zl r _ HZ.out (by omega) hr0 hrb hb).mono ?_
        rintro e w2 ⟨rfl, t2, _⟩
        have HB2 : Hid (∀ i zs, j + 1 ≤ i → ps[i]? = some zs → BytesIn (F i) (F i + 1) w2 (some ⟨F i, 0, none⟩) zs) := fun i ys hi hz => by
          have hil : i < n := by rw [← HN.out]; exact (List.getElem?_eq_some_iff.1 hz).1
          have := HPt.out.ne j i zs (by omega) hil hzs hne
          exact (hB.out i ys (by omega) hz).turned t2 (.inr (by omega))
        have ht2 := ht.trans (t2.widen (lo' := g + 1) (hi' := hi) (by omega) (by omega))
        clear t2 c0 hb ht hB
        go_wp2_with fail
        go_roundw
        case rel => exact ⟨j + 1, r + zl, by omega, by go_num, rfl, by omega, by omega, ht2, HB2⟩
        case measure => simp [intOf]; omega
    · have e : j = n := by omega
      subst e
      go_wp2_with fail
      go_ret
      exact ⟨r, rfl, hr0, ht⟩

end Go.Proofs.YtnfolgoloaeanaaGreat

