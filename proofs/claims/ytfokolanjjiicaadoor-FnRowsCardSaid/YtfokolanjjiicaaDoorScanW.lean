/-
  The contract of scanRow.
-/
import Derived.Test.YtfokolanjjiicaaDoorScanB
namespace Go.Proofs.YtfokolanjjiicaaDoor
open Go.RowKit
set_option linter.unusedVariables false

set_option maxHeartbeats 20000000 in
theorem scanSaid : ScanSaid := by
  intro s w hs
  obtain ⟨i0, hi0, hz0, hz1, hz2⟩ := info5
  go_enter Tryd.func23, Tryd.ntmps23
  go_wp2_with fail
  refine wp_scope_first (ScJ s w) (scM s) ?_ ?_
  · intro l a wr hJ
    obtain ⟨v5, va, vc, v8, u9, u10, u11, u12, u13, u14, u15, u16, u17, u18, u19, u20, u21, u22, u23, u24, u25, u26, u27, u28, u29, u30, u31, u32, u33, u34, u35, u36, u37, u38, u39, u40, u41, u42, u43, u44, u45, u46, u47, u48, u49, u50, u51, u52, u53, u54, u55, u56, u57, u58, u59, u60, u61, u62, u63, u64, u65, u66, u67, u68, rfl, q, cnt, n0, n1, n2, rfl, rfl, hB, hI⟩ := hJ
    match l, hI with
    | 1, hI =>
      have HBad : Hid (BadT s) := hI
      clear hI
      refine ⟨_, rfl, ?_⟩
      obtain ⟨g0, r0, r1, r2, r3, rf0, rf1, rf2, rf3, x0, x1, x2, y0, y1, y2⟩ := hB
      go_wp2_with (refine wp_label ?_)
      simp only [jumpsTo]
      refine bodyPost_ret (v := .tuple #[.agg #[.int .i64 0, .int .i64 0, .int .i64 0, .string ⟨#[]⟩], .bool false]) (by simp [results, Tryd.results23, go_sem, r0, r1, r2, r3]) rfl ?_
      exact ⟨0, 0, 0, ⟨#[]⟩, false, rfl, Nat.zero_le _, .inr ⟨by simp, HBad.out⟩, by go_grown⟩
    | 2, hI =>
      refine ⟨_, rfl, ?_⟩
      obtain ⟨g0, r0, r1, r2, r3, rf0, rf1, rf2, rf3, x0, x1, x2, y0, y1, y2⟩ := hB
      rcases hI with ⟨hc, hbad⟩ | ⟨rfl, rfl, hsc⟩
      · have HBad : Hid (BadT s) := hbad
        have dc : ((cnt : Int) == 3) = false := by simp; omega
        clear hbad
        go_wp2_with (refine wp_label ?_)
        simp only [jumpsTo]
        refine bodyPost_ret (v := .tuple #[.agg #[.int .i64 0, .int .i64 0, .int .i64 0, .string ⟨#[]⟩], .bool false]) (by simp [results, Tryd.results23, go_sem, r0, r1, r2, r3]) rfl ?_
        exact ⟨0, 0, 0, ⟨#[]⟩, false, rfl, Nat.zero_le _, .inr ⟨by simp, HBad.out⟩, by go_grown⟩
      · have hSc : Hid (ScanOk s n0 n1 n2 ⟨#[]⟩ true) := hsc
        clear hsc
        have hcv : (convert 22 9 (.slice none 0 0)).run Tryd.prog wr = .ok (.string ⟨#[]⟩) wr := convertS wr none 0 0 [] rfl (.inl rfl)
        go_wp2_with (refine wp_label ?_)
        simp only [jumpsTo]
        refine bodyPost_ret (v := .tuple #[.agg #[.int .i64 n0, .int .i64 n1, .int .i64 n2, .string ⟨#[]⟩], .bool true]) (by simp [results, Tryd.results23, go_sem, r0, r1, r2, r3]) rfl ?_
        exact ⟨n0, n1, n2, ⟨#[]⟩, true, rfl, Nat.zero_le _, hSc.out, by go_grown⟩
    | 3, hI =>
      obtain ⟨p, k, ws, rfl, rfl, hps, hk, hcut0, hlen, hnums0, hlet0, hown⟩ := hI
      have hcut : Hid (cutSt s p = (ws, p)) := hcut0
      have hnums : Hid (numsOk ws n0 n1 n2) := hnums0
      have hlet : Hid (∀ i, p ≤ i → i < p + k → lttB (byteAt s i) = true) := hlet0
      clear hcut0 hnums0 hlet0
      refine ⟨_, rfl, ?_⟩
      by_cases h1 : p + k = s.size
      · have HBad : Hid (BadT s) := let_wrong s p (p + k) ws hcut.out hlen (by omega) (by omega) (.inl ⟨h1, by omega⟩) hlet.out
        have d1 : ((p : Int) + (k : Int) == (s.size : Int)) = true := by simp; omega
        go_wp2_with (refine wp_label ?_)
        refine wp_goto ?_
        simp only [Exit.then]
        refine ⟨⟨_, _, _, _, _, _, _, _, _, _, _, _, _, _, _, _, _, _, _, _, _, _, _, _, _, _, _, _, _, _, _, _, _, _, _, _, _, _, _, _, _, _, _, _, _, _, _, _, _, _, _, _, _, _, _, _, _, _, _, _, _, _, _, _, rfl, p + k, 3, n0, n1, n2, by go_num, by go_num, hB, HBad.out⟩, ?_⟩
        simp [scM, intOf]; omega
      · have hlt : p + k < s.size := by omega
        have d1 : ((p : Int) + (k : Int) == (s.size : Int)) = false := by simp; omega
        have i1 : (p : Int) + (k : Int) < (s.size : Int) := by omega
        have hbt := byteAt_of s (p + k) hlt
        cases hlb : lttB (byteAt s (p + k))
        · have HBad : Hid (BadT s) := let_wrong s p (p + k) ws hcut.out hlen (by omega) (by omega) (.inr ⟨hlt, hlb⟩) hlet.out
          rw [hbt] at hlb
          have HLB : Hid (lttB (s[p + k].toNat : Int) = false) := hlb
          clear hlb hbt
          go_wp2_with (first | (go_at_call 33; refine (isLetter_any _ _).mono ?_; rintro e w' ⟨rfl, hw'⟩; subst w'; rw [HLB.out]) | refine wp_label ?_)
          refine wp_goto ?_
          simp only [Exit.then]
          refine ⟨⟨_, _, _, _, _, _, _, _, _, _, _, _, _, _, _, _, _, _, _, _, _, _, _, _, _, _, _, _, _, _, _, _, _, _, _, _, _, _, _, _, _, _, _, _, _, _, _, _, _, _, _, _, _, _, _, _, _, _, _, _, _, _, _, _, rfl, p + k, 3, n0, n1, n2, by go_num, by go_num, hB, HBad.out⟩, ?_⟩
          simp [scM, intOf]; omega
        · have HLet : Hid (∀ i, p ≤ i → i < p + (k + 1) → lttB (byteAt s i) = true) := fun i h2 h3 => by
            by_cases e : i = p + k
            · rw [e]; exact hlb
            · exact hlet.out i h2 (by omega)
          have HByt : Hid (byteAt s (p + k) = (s[p + k].toNat : Int)) := hbt
          rw [hbt] at hlb
          have HLB : Hid (lttB (s[p + k].toNat : Int) = true) := hlb
          clear hlb hbt
          go_wp2_with (first | (go_at_call 33; refine (isLetter_any _ _).mono ?_; rintro e w' ⟨rfl, hw'⟩; subst w'; rw [HLB.out]) | refine wp_label ?_ | (at_builtin; go_must (refine wpList_append_own _ rfl _ _ 22 rfl (w.heap.size + 2) 5 i0 (.int .u8 0) 1 1 Tryd.underlying22 hi0 hz0 hz1 hz2 rfl (by decide) _ _ _ rfl (hown.alloc _) ⟨wr.heap.size, 0, none⟩ 1 1 [.int .u8 (s[p + k].toNat : Int)] rfl rfl ?c1 ?c2 ?c3 ?c4 ?c5 ?_)))
          case c1 =>
            intro j u hj
            match j, hj with
            | 0, hj => simp at hj; subst hj; simp [Addr.add]
          case c2 => intro u hu; simp at hu; subst hu; rfl
          case c3 => unfold maxLen; omega
          case c4 => omega
          case c5 => have := World.block_lt_of_cell? _ _ hB.x0; simp at this ⊢; omega
          intro v' w1 hown' hgrow _
          have hbs : w.heap.size + 2 ≤ wr.heap.size := by have := World.block_lt_of_cell? _ _ hB.x0; simp at this; omega
          have hB1 : ScB w n0 n1 n2 w1 := hB.below2 (Below.grown ((Below.refl _ _).alloc hbs _) hgrow (by simp; omega) (fun j hj => (hown.lt j hj).1))
          have hown1 : w1.ownsRow (w.heap.size + 2) 5 1 v' (k + 1) ((bytesL s p (k + 1)).map (Value.int .u8)) := by
            rw [bytesL_succ, HByt.out]
            simpa using hown'
          clear hgrow hown hown' hB
          by_cases h2 : p + (k + 1) < s.size
          · have i2 : (p : Int) + (k : Int) + 1 < (s.size : Int) := by omega
            go_wp2_with (refine wp_label ?_)
            refine wp_goto ?_
            simp only [Exit.then]
            refine ⟨⟨_, _, _, _, _, _, _, _, _, _, _, _, _, _, _, _, _, _, _, _, _, _, _, _, _, _, _, _, _, _, _, _, _, _, _, _, _, _, _, _, _, _, _, _, _, _, _, _, _, _, _, _, _, _, _, _, _, _, _, _, _, _, _, _, rfl, p + (k + 1), 3, n0, n1, n2, by go_num, by go_num, hB1, ⟨p, k + 1, ws, rfl, rfl, by omega, .inr h2, hcut.out, hlen, hnums.out, HLet.out, hown1⟩⟩, ?_⟩
            simp [scM, intOf]; omega
          · have i2 : ¬ (p : Int) + (k : Int) + 1 < (s.size : Int) := by omega
            have hsz : p + (k + 1) = s.size := by omega
            have hSc : Hid (ScanOk s n0 n1 n2 (s.extract p s.size) true) := let_end s p ws n0 n1 n2 hcut.out hlen hnums.out (by omega) (fun i h2 h3 => HLet.out i h2 (by omega))
            have hxs : Hid (ByteArray.size (s.extract p s.size) ≤ maxLen) := by
              show _ ≤ _
              rw [ByteArray.size_extract]
              unfold maxLen
              omega
            obtain ⟨g, cap, rfl⟩ := Joins.ownsRow_form hown1 (by omega)
            have hcv : (convert 22 9 (.slice (some ⟨g, 0, none⟩) (k + 1) cap)).run Tryd.prog w1 = .ok (.string (s.extract p s.size)) w1 := by
              have := convertS w1 _ (k + 1) cap (bytesL s p (k + 1)) (bytesL_length s p (k + 1)) (bytesIn_owns hown1).reads
              rw [bytesL_str s p (k + 1) (by omega), hsz] at this
              exact this
            generalize s.extract p s.size = x at hSc hxs hcv
            obtain ⟨g0, r0, r1, r2, r3, rf0, rf1, rf2, rf3, x0, x1, x2, y0, y1, y2⟩ := hB1
            go_wp2_with (refine wp_label ?_)
            simp only [jumpsTo]
            refine bodyPost_ret (v := .tuple #[.agg #[.int .i64 n0, .int .i64 n1, .int .i64 n2, .string x], .bool true]) (by simp [results, Tryd.results23, go_sem, r0, r1, r2, r3]) rfl ?_
            exact ⟨n0, n1, n2, x, true, rfl, hxs.out, hSc.out, by go_grown⟩
    | 0, hI =>
      obtain ⟨hp, rfl, ws, hcut0, hlen, hc3, hnums0⟩ := hI
      have hcut : Hid (cutSt s q = (ws, q)) := hcut0
      have hnums : Hid (numsOk ws n0 n1 n2) := hnums0
      clear hcut0 hnums0
      generalize q = p at hcut hp
      refine ⟨_, rfl, ?_⟩
      match cnt, hc3, hlen with
      | 0, _, hlen =>
        obtain ⟨g0, r0, r1, r2, r3, rf0, rf1, rf2, rf3, x0, x1, x2, y0, y1, y2⟩ := id hB
        go_wp2_with (refine wp_label ?_)
        refine (readNumber_any s p _ hs (by omega)).mono ?_
        rintro e w' ⟨⟨j, hr, rfl⟩, hw'⟩
        subst w'
        have hle := hr.le
        have hj4 := hr.four
        have HR : Hid (IsRun s p j) := hr
        have hnb := numOf_small s p j hr.four hr.digs
        clear hr
        by_cases hbad : j = 0 ∨ (1 < j ∧ byteAt s p = 48)
        · have HBad : Hid (BadT s) := num_wrong s p j ws hcut.out (by omega) hp HR.out (.inl hbad)
          rw [show numEnd s p j = .tuple #[.int .i64 0, .int .i64 p, .bool false] by rw [numEnd, if_pos hbad]]
          clear hbad
          go_wp2_with (refine wp_label ?_)
          refine wp_goto ?_
          simp only [Exit.then]
          refine ⟨⟨_, _, _, _, _, _, _, _, _, _, _, _, _, _, _, _, _, _, _, _, _, _, _, _, _, _, _, _, _, _, _, _, _, _, _, _, _, _, _, _, _, _, _, _, _, _, _, _, _, _, _, _, _, _, _, _, _, _, _, _, _, _, _, _, rfl, p, 0, 0, n1, n2, by go_num, by go_num, hB.set0 0, HBad.out⟩, ?_⟩
          simp [scM, intOf]; omega
        · rw [show numEnd s p j = .tuple #[.int .i64 (numOf s p j), .int .i64 (p + j), .bool true] by rw [numEnd, if_neg hbad]]
          obtain ⟨v, hv⟩ : ∃ v, v = numOf s p j := ⟨_, rfl⟩
          rw [← hv] at hnb ⊢
          have HV : Hid (wordNum (s.extract p (p + j)) = v) := by show _ = _; rw [hv]; exact wordNum_run s p j HR.out hbad
          have hj0 : 0 < j := by omega
          clear hv hbad
          have HNums : Hid (numsOk (ws ++ [s.extract p (p + j)]) v n1 n2) := by
            have := nums_more ws (s.extract p (p + j)) n0 n1 n2 hnums.out (by omega)
            rw [hlen, HV.out] at this
            exact this
          by_cases hend : p + j = s.size
          · have d1 : ((p : Int) + (j : Int) == (s.size : Int)) = true := by simp; omega
            have hall : Hid ((cutSt s (s.size + 1)).1 = ws ++ [s.extract p (p + j)]) := by
              have := num_more s p j ws hcut.out HR.out (.inl hend)
              show _ = _
              rw [hend] at this ⊢
              rw [this]
            have HBad : Hid (BadT s) := by show (wordsRow (cutSt s (s.size + 1)).1).ok = false; rw [hall.out]; exact few_bad _ (by simp; omega)
            go_wp2_with (refine wp_label ?_)
            refine wp_goto ?_
            simp only [Exit.then]
            refine ⟨⟨_, _, _, _, _, _, _, _, _, _, _, _, _, _, _, _, _, _, _, _, _, _, _, _, _, _, _, _, _, _, _, _, _, _, _, _, _, _, _, _, _, _, _, _, _, _, _, _, _, _, _, _, _, _, _, _, _, _, _, _, _, _, _, _, rfl, p + j, 1, v, n1, n2, by go_num, by go_num, hB.set0 v, .inl ⟨by omega, HBad.out⟩⟩, ?_⟩
            simp [scM, intOf]; omega
          · have d1 : ((p : Int) + (j : Int) == (s.size : Int)) = false := by simp; omega
            have hlt : p + j < s.size := by omega
            have i1 : (p : Int) + (j : Int) < (s.size : Int) := by omega
            have hbt := byteAt_of s (p + j) hlt
            by_cases hb : byteAt s (p + j) = 32
            · have hcut' : Hid (cutSt s (p + j + 1) = (ws ++ [s.extract p (p + j)], p + j + 1)) := num_more s p j ws hcut.out HR.out (.inr hb)
              have d2 : ((s[p + j].toNat : Int) != 32) = false := by rw [← hbt]; simpa using hb
              clear hb hbt
              go_wp2_with (refine wp_label ?_)
              refine wp_goto ?_
              simp only [Exit.then]
              refine ⟨⟨_, _, _, _, _, _, _, _, _, _, _, _, _, _, _, _, _, _, _, _, _, _, _, _, _, _, _, _, _, _, _, _, _, _, _, _, _, _, _, _, _, _, _, _, _, _, _, _, _, _, _, _, _, _, _, _, _, _, _, _, _, _, _, _, rfl, p + j + 1, 1, v, n1, n2, by go_num, by go_num, hB.set0 v, ⟨by omega, rfl, _, hcut'.out, by rw [List.length_append, hlen]; rfl, by omega, HNums.out⟩⟩, ?_⟩
              simp [scM, intOf]; omega
            · have HBad : Hid (BadT s) := num_wrong s p j ws hcut.out (by omega) hp HR.out (.inr ⟨hlt, hb⟩)
              have d2 : ((s[p + j].toNat : Int) != 32) = true := by rw [← hbt]; simpa using hb
              clear hb hbt
              go_wp2_with (refine wp_label ?_)
              refine wp_goto ?_
              simp only [Exit.then]
              refine ⟨⟨_, _, _, _, _, _, _, _, _, _, _, _, _, _, _, _, _, _, _, _, _, _, _, _, _, _, _, _, _, _, _, _, _, _, _, _, _, _, _, _, _, _, _, _, _, _, _, _, _, _, _, _, _, _, _, _, _, _, _, _, _, _, _, _, rfl, p + j, 1, v, n1, n2, by go_num, by go_num, hB.set0 v, HBad.out⟩, ?_⟩
              simp [scM, intOf]; omega
      | 1, _, hlen =>
        obtain ⟨g0, r0, r1, r2, r3, rf0, rf1, rf2, rf3, x0, x1, x2, y0, y1, y2⟩ := id hB
        go_wp2_with (refine wp_label ?_)
        refine (readNumber_any s p _ hs (by omega)).mono ?_
        rintro e w' ⟨⟨j, hr, rfl⟩, hw'⟩
        subst w'
        have hle := hr.le
        have hj4 := hr.four
        have HR : Hid (IsRun s p j) := hr
        have hnb := numOf_small s p j hr.four hr.digs
        clear hr
        by_cases hbad : j = 0 ∨ (1 < j ∧ byteAt s p = 48)
        · have HBad : Hid (BadT s) := num_wrong s p j ws hcut.out (by omega) hp HR.out (.inl hbad)
          rw [show numEnd s p j = .tuple #[.int .i64 0, .int .i64 p, .bool false] by rw [numEnd, if_pos hbad]]
          clear hbad
          go_wp2_with (refine wp_label ?_)
          refine wp_goto ?_
          simp only [Exit.then]
          refine ⟨⟨_, _, _, _, _, _, _, _, _, _, _, _, _, _, _, _, _, _, _, _, _, _, _, _, _, _, _, _, _, _, _, _, _, _, _, _, _, _, _, _, _, _, _, _, _, _, _, _, _, _, _, _, _, _, _, _, _, _, _, _, _, _, _, _, rfl, p, 1, n0, 0, n2, by go_num, by go_num, hB.set1 0, HBad.out⟩, ?_⟩
          simp [scM, intOf]; omega
        · rw [show numEnd s p j = .tuple #[.int .i64 (numOf s p j), .int .i64 (p + j), .bool true] by rw [numEnd, if_neg hbad]]
          obtain ⟨v, hv⟩ : ∃ v, v = numOf s p j := ⟨_, rfl⟩
          rw [← hv] at hnb ⊢
          have HV : Hid (wordNum (s.extract p (p + j)) = v) := by show _ = _; rw [hv]; exact wordNum_run s p j HR.out hbad
          have hj0 : 0 < j := by omega
          clear hv hbad
          have HNums : Hid (numsOk (ws ++ [s.extract p (p + j)]) n0 v n2) := by
            have := nums_more ws (s.extract p (p + j)) n0 n1 n2 hnums.out (by omega)
            rw [hlen, HV.out] at this
            exact this
          by_cases hend : p + j = s.size
          · have d1 : ((p : Int) + (j : Int) == (s.size : Int)) = true := by simp; omega
            have hall : Hid ((cutSt s (s.size + 1)).1 = ws ++ [s.extract p (p + j)]) := by
              have := num_more s p j ws hcut.out HR.out (.inl hend)
              show _ = _
              rw [hend] at this ⊢
              rw [this]
            have HBad : Hid (BadT s) := by show (wordsRow (cutSt s (s.size + 1)).1).ok = false; rw [hall.out]; exact few_bad _ (by simp; omega)
            go_wp2_with (refine wp_label ?_)
            refine wp_goto ?_
            simp only [Exit.then]
            refine ⟨⟨_, _, _, _, _, _, _, _, _, _, _, _, _, _, _, _, _, _, _, _, _, _, _, _, _, _, _, _, _, _, _, _, _, _, _, _, _, _, _, _, _, _, _, _, _, _, _, _, _, _, _, _, _, _, _, _, _, _, _, _, _, _, _, _, rfl, p + j, 2, n0, v, n2, by go_num, by go_num, hB.set1 v, .inl ⟨by omega, HBad.out⟩⟩, ?_⟩
            simp [scM, intOf]; omega
          · have d1 : ((p : Int) + (j : Int) == (s.size : Int)) = false := by simp; omega
            have hlt : p + j < s.size := by omega
            have i1 : (p : Int) + (j : Int) < (s.size : Int) := by omega
            have hbt := byteAt_of s (p + j) hlt
            by_cases hb : byteAt s (p + j) = 32
            · have hcut' : Hid (cutSt s (p + j + 1) = (ws ++ [s.extract p (p + j)], p + j + 1)) := num_more s p j ws hcut.out HR.out (.inr hb)
              have d2 : ((s[p + j].toNat : Int) != 32) = false := by rw [← hbt]; simpa using hb
              clear hb hbt
              go_wp2_with (refine wp_label ?_)
              refine wp_goto ?_
              simp only [Exit.then]
              refine ⟨⟨_, _, _, _, _, _, _, _, _, _, _, _, _, _, _, _, _, _, _, _, _, _, _, _, _, _, _, _, _, _, _, _, _, _, _, _, _, _, _, _, _, _, _, _, _, _, _, _, _, _, _, _, _, _, _, _, _, _, _, _, _, _, _, _, rfl, p + j + 1, 2, n0, v, n2, by go_num, by go_num, hB.set1 v, ⟨by omega, rfl, _, hcut'.out, by rw [List.length_append, hlen]; rfl, by omega, HNums.out⟩⟩, ?_⟩
              simp [scM, intOf]; omega
            · have HBad : Hid (BadT s) := num_wrong s p j ws hcut.out (by omega) hp HR.out (.inr ⟨hlt, hb⟩)
              have d2 : ((s[p + j].toNat : Int) != 32) = true := by rw [← hbt]; simpa using hb
              clear hb hbt
              go_wp2_with (refine wp_label ?_)
              refine wp_goto ?_
              simp only [Exit.then]
              refine ⟨⟨_, _, _, _, _, _, _, _, _, _, _, _, _, _, _, _, _, _, _, _, _, _, _, _, _, _, _, _, _, _, _, _, _, _, _, _, _, _, _, _, _, _, _, _, _, _, _, _, _, _, _, _, _, _, _, _, _, _, _, _, _, _, _, _, rfl, p + j, 2, n0, v, n2, by go_num, by go_num, hB.set1 v, HBad.out⟩, ?_⟩
              simp [scM, intOf]; omega
      | 2, _, hlen =>
        obtain ⟨g0, r0, r1, r2, r3, rf0, rf1, rf2, rf3, x0, x1, x2, y0, y1, y2⟩ := id hB
        go_wp2_with (refine wp_label ?_)
        refine (readNumber_any s p _ hs (by omega)).mono ?_
        rintro e w' ⟨⟨j, hr, rfl⟩, hw'⟩
        subst w'
        have hle := hr.le
        have hj4 := hr.four
        have HR : Hid (IsRun s p j) := hr
        have hnb := numOf_small s p j hr.four hr.digs
        clear hr
        by_cases hbad : j = 0 ∨ (1 < j ∧ byteAt s p = 48)
        · have HBad : Hid (BadT s) := num_wrong s p j ws hcut.out (by omega) hp HR.out (.inl hbad)
          rw [show numEnd s p j = .tuple #[.int .i64 0, .int .i64 p, .bool false] by rw [numEnd, if_pos hbad]]
          clear hbad
          go_wp2_with (refine wp_label ?_)
          refine wp_goto ?_
          simp only [Exit.then]
          refine ⟨⟨_, _, _, _, _, _, _, _, _, _, _, _, _, _, _, _, _, _, _, _, _, _, _, _, _, _, _, _, _, _, _, _, _, _, _, _, _, _, _, _, _, _, _, _, _, _, _, _, _, _, _, _, _, _, _, _, _, _, _, _, _, _, _, _, rfl, p, 2, n0, n1, 0, by go_num, by go_num, hB.set2 0, HBad.out⟩, ?_⟩
          simp [scM, intOf]; omega
        · rw [show numEnd s p j = .tuple #[.int .i64 (numOf s p j), .int .i64 (p + j), .bool true] by rw [numEnd, if_neg hbad]]
          obtain ⟨v, hv⟩ : ∃ v, v = numOf s p j := ⟨_, rfl⟩
          rw [← hv] at hnb ⊢
          have HV : Hid (wordNum (s.extract p (p + j)) = v) := by show _ = _; rw [hv]; exact wordNum_run s p j HR.out hbad
          have hj0 : 0 < j := by omega
          clear hv hbad
          have HNums : Hid (numsOk (ws ++ [s.extract p (p + j)]) n0 n1 v) := by
            have := nums_more ws (s.extract p (p + j)) n0 n1 n2 hnums.out (by omega)
            rw [hlen, HV.out] at this
            exact this
          by_cases hend : p + j = s.size
          · have d1 : ((p : Int) + (j : Int) == (s.size : Int)) = true := by simp; omega
            have hall : Hid ((cutSt s (s.size + 1)).1 = ws ++ [s.extract p (p + j)]) := by
              have := num_more s p j ws hcut.out HR.out (.inl hend)
              show _ = _
              rw [hend] at this ⊢
              rw [this]
            have hSc : Hid (ScanOk s n0 n1 v ⟨#[]⟩ true) := three_end s _ n0 n1 v hall.out (by simp; omega) HNums.out
            go_wp2_with (refine wp_label ?_)
            refine wp_goto ?_
            simp only [Exit.then]
            refine ⟨⟨_, _, _, _, _, _, _, _, _, _, _, _, _, _, _, _, _, _, _, _, _, _, _, _, _, _, _, _, _, _, _, _, _, _, _, _, _, _, _, _, _, _, _, _, _, _, _, _, _, _, _, _, _, _, _, _, _, _, _, _, _, _, _, _, rfl, p + j, 3, n0, n1, v, by go_num, by go_num, hB.set2 v, .inr ⟨rfl, rfl, hSc.out⟩⟩, ?_⟩
            simp [scM, intOf]; omega
          · have d1 : ((p : Int) + (j : Int) == (s.size : Int)) = false := by simp; omega
            have hlt : p + j < s.size := by omega
            have i1 : (p : Int) + (j : Int) < (s.size : Int) := by omega
            have hbt := byteAt_of s (p + j) hlt
            by_cases hb : byteAt s (p + j) = 32
            · have hcut' : Hid (cutSt s (p + j + 1) = (ws ++ [s.extract p (p + j)], p + j + 1)) := num_more s p j ws hcut.out HR.out (.inr hb)
              have d2 : ((s[p + j].toNat : Int) != 32) = false := by rw [← hbt]; simpa using hb
              clear hb hbt
              go_upto_region 11 with (refine wp_label ?_)
              generalize hX : World.setCell _ _ _ = X
              have hB : ScB w n0 n1 v X := by rw [← hX]; exact hB.set2 v
              obtain ⟨q, hq⟩ : ∃ q, q = p + j + 1 := ⟨_, rfl⟩
              rw [← hq] at hcut'
              obtain ⟨k, hk0⟩ : ∃ k : Nat, k = 0 := ⟨0, rfl⟩
              have hqc : (p : Int) + (j : Int) + 1 = ((q + k : Nat) : Int) := by omega
              have hps : q + k ≤ s.size := by omega
              have hqp : p < q := by omega
              rw [hqc]
              have hlen' : (ws ++ [s.extract p (p + j)]).length = 3 := by rw [List.length_append, hlen]; rfl
              generalize ws ++ [s.extract p (p + j)] = ws' at hcut' HNums hlen'
              have hcut : Hid (cutSt s q = (ws', q)) := hcut'
              have hnums : Hid (numsOk ws' n0 n1 v) := HNums
              have hlet : Hid (∀ i, q ≤ i → i < q + k → lttB (byteAt s i) = true) := fun i h1 h2 => by omega
              have hown : X.ownsRow (w.heap.size + 2) 5 1 (.slice none 0 0) k ((bytesL s q k).map (Value.int .u8)) := by rw [hk0]; exact World.ownsRow_nil X _ _ _
              have hk : k = 0 ∨ q + k < s.size := .inl hk0
              clear hX hqc hq d1 d2 hend HV hnb hj0 hj4 hle HR g0 r0 r1 r2 r3 rf0 rf1 rf2 rf3 x0 x1 x2 y0 y1 y2 hcut' HNums hlen hk0
              by_cases h1 : q + k = s.size
              · have HBad : Hid (BadT s) := let_wrong s q (q + k) ws' hcut.out hlen' (by omega) (by omega) (.inl ⟨h1, by omega⟩) hlet.out
                have d1 : ((q : Int) + (k : Int) == (s.size : Int)) = true := by simp; omega
                go_wp2_with (refine wp_label ?_)
                refine wp_goto ?_
                simp only [Exit.then]
                refine ⟨⟨_, _, _, _, _, _, _, _, _, _, _, _, _, _, _, _, _, _, _, _, _, _, _, _, _, _, _, _, _, _, _, _, _, _, _, _, _, _, _, _, _, _, _, _, _, _, _, _, _, _, _, _, _, _, _, _, _, _, _, _, _, _, _, _, rfl, q + k, 3, n0, n1, v, by go_num, by go_num, hB, HBad.out⟩, ?_⟩
                simp [scM, intOf]; omega
              · have hlt : q + k < s.size := by omega
                have d1 : ((q : Int) + (k : Int) == (s.size : Int)) = false := by simp; omega
                have i1 : (q : Int) + (k : Int) < (s.size : Int) := by omega
                have hbt := byteAt_of s (q + k) hlt
                cases hlb : lttB (byteAt s (q + k))
                · have HBad : Hid (BadT s) := let_wrong s q (q + k) ws' hcut.out hlen' (by omega) (by omega) (.inr ⟨hlt, hlb⟩) hlet.out
                  rw [hbt] at hlb
                  have HLB : Hid (lttB (s[q + k].toNat : Int) = false) := hlb
                  clear hlb hbt
                  go_wp2_with (first | (go_at_call 33; refine (isLetter_any _ _).mono ?_; rintro e w' ⟨rfl, hw'⟩; subst w'; rw [HLB.out]) | refine wp_label ?_)
                  refine wp_goto ?_
                  simp only [Exit.then]
                  refine ⟨⟨_, _, _, _, _, _, _, _, _, _, _, _, _, _, _, _, _, _, _, _, _, _, _, _, _, _, _, _, _, _, _, _, _, _, _, _, _, _, _, _, _, _, _, _, _, _, _, _, _, _, _, _, _, _, _, _, _, _, _, _, _, _, _, _, rfl, q + k, 3, n0, n1, v, by go_num, by go_num, hB, HBad.out⟩, ?_⟩
                  simp [scM, intOf]; omega
                · have HLet : Hid (∀ i, q ≤ i → i < q + (k + 1) → lttB (byteAt s i) = true) := fun i h2 h3 => by
                    by_cases e : i = q + k
                    · rw [e]; exact hlb
                    · exact hlet.out i h2 (by omega)
                  have HByt : Hid (byteAt s (q + k) = (s[q + k].toNat : Int)) := hbt
                  rw [hbt] at hlb
                  have HLB : Hid (lttB (s[q + k].toNat : Int) = true) := hlb
                  clear hlb hbt
                  go_wp2_with (first | (go_at_call 33; refine (isLetter_any _ _).mono ?_; rintro e w' ⟨rfl, hw'⟩; subst w'; rw [HLB.out]) | refine wp_label ?_ | (at_builtin; go_must (refine wpList_append_own _ rfl _ _ 22 rfl (w.heap.size + 2) 5 i0 (.int .u8 0) 1 1 Tryd.underlying22 hi0 hz0 hz1 hz2 rfl (by decide) _ _ _ rfl (hown.alloc _) ⟨X.heap.size, 0, none⟩ 1 1 [.int .u8 (s[q + k].toNat : Int)] rfl rfl ?c1 ?c2 ?c3 ?c4 ?c5 ?_)))
                  case c1 =>
                    intro j u hj
                    match j, hj with
                    | 0, hj => simp at hj; subst hj; simp [Addr.add]
                  case c2 => intro u hu; simp at hu; subst hu; rfl
                  case c3 => unfold maxLen; omega
                  case c4 => omega
                  case c5 => have := World.block_lt_of_cell? _ _ hB.x0; simp at this ⊢; omega
                  intro v' w1 hown' hgrow _
                  have hbs : w.heap.size + 2 ≤ X.heap.size := by have := World.block_lt_of_cell? _ _ hB.x0; simp at this; omega
                  have hB1 : ScB w n0 n1 v w1 := hB.below2 (Below.grown ((Below.refl _ _).alloc hbs _) hgrow (by simp; omega) (fun j hj => (hown.lt j hj).1))
                  have hown1 : w1.ownsRow (w.heap.size + 2) 5 1 v' (k + 1) ((bytesL s q (k + 1)).map (Value.int .u8)) := by
                    rw [bytesL_succ, HByt.out]
                    simpa using hown'
                  clear hgrow hown hown' hB
                  by_cases h2 : q + (k + 1) < s.size
                  · have i2 : (q : Int) + (k : Int) + 1 < (s.size : Int) := by omega
                    go_wp2_with (refine wp_label ?_)
                    refine wp_goto ?_
                    simp only [Exit.then]
                    refine ⟨⟨_, _, _, _, _, _, _, _, _, _, _, _, _, _, _, _, _, _, _, _, _, _, _, _, _, _, _, _, _, _, _, _, _, _, _, _, _, _, _, _, _, _, _, _, _, _, _, _, _, _, _, _, _, _, _, _, _, _, _, _, _, _, _, _, rfl, q + (k + 1), 3, n0, n1, v, by go_num, by go_num, hB1, ⟨q, k + 1, ws', rfl, rfl, by omega, .inr h2, hcut.out, hlen', hnums.out, HLet.out, hown1⟩⟩, ?_⟩
                    simp [scM, intOf]; omega
                  · have i2 : ¬ (q : Int) + (k : Int) + 1 < (s.size : Int) := by omega
                    have hsz : q + (k + 1) = s.size := by omega
                    have hSc : Hid (ScanOk s n0 n1 v (s.extract q s.size) true) := let_end s q ws' n0 n1 v hcut.out hlen' hnums.out (by omega) (fun i h2 h3 => HLet.out i h2 (by omega))
                    have hxs : Hid (ByteArray.size (s.extract q s.size) ≤ maxLen) := by
                      show _ ≤ _
                      rw [ByteArray.size_extract]
                      unfold maxLen
                      omega
                    obtain ⟨g, cap, rfl⟩ := Joins.ownsRow_form hown1 (by omega)
                    have hcv : (convert 22 9 (.slice (some ⟨g, 0, none⟩) (k + 1) cap)).run Tryd.prog w1 = .ok (.string (s.extract q s.size)) w1 := by
                      have := convertS w1 _ (k + 1) cap (bytesL s q (k + 1)) (bytesL_length s q (k + 1)) (bytesIn_owns hown1).reads
                      rw [bytesL_str s q (k + 1) (by omega), hsz] at this
                      exact this
                    generalize s.extract q s.size = x at hSc hxs hcv
                    obtain ⟨g0, r0, r1, r2, r3, rf0, rf1, rf2, rf3, x0, x1, x2, y0, y1, y2⟩ := hB1
                    go_wp2_with (refine wp_label ?_)
                    simp only [jumpsTo]
                    refine bodyPost_ret (v := .tuple #[.agg #[.int .i64 n0, .int .i64 n1, .int .i64 v, .string x], .bool true]) (by simp [results, Tryd.results23, go_sem, r0, r1, r2, r3]) rfl ?_
                    exact ⟨n0, n1, v, x, true, rfl, hxs.out, hSc.out, by go_grown⟩
            · have HBad : Hid (BadT s) := num_wrong s p j ws hcut.out (by omega) hp HR.out (.inr ⟨hlt, hb⟩)
              have d2 : ((s[p + j].toNat : Int) != 32) = true := by rw [← hbt]; simpa using hb
              clear hb hbt
              go_wp2_with (refine wp_label ?_)
              refine wp_goto ?_
              simp only [Exit.then]
              refine ⟨⟨_, _, _, _, _, _, _, _, _, _, _, _, _, _, _, _, _, _, _, _, _, _, _, _, _, _, _, _, _, _, _, _, _, _, _, _, _, _, _, _, _, _, _, _, _, _, _, _, _, _, _, _, _, _, _, _, _, _, _, _, _, _, _, _, rfl, p + j, 3, n0, n1, v, by go_num, by go_num, hB.set2 v, HBad.out⟩, ?_⟩
              simp [scM, intOf]; omega
    | l + 4, hI => exact hI.elim
  · intro h0
    go_wp2_with fail
    refine wp_label ?_
    simp only [Exit.then]
    go_step
    refine h0 _ _ ?_ _ rfl
    refine ⟨_, _, _, _, _, _, _, _, _, _, _, _, _, _, _, _, _, _, _, _, _, _, _, _, _, _, _, _, _, _, _, _, _, _, _, _, _, _, _, _, _, _, _, _, _, _, _, _, _, _, _, _, _, _, _, _, _, _, _, _, _, _, _, _, rfl, 0, 0, 0, 0, 0, rfl, rfl, ?_, by omega, rfl, [], rfl, rfl, by omega, fun i x h => by simp at h⟩
    exact ⟨by go_grown, by simp [go_sem], by simp [go_sem], by simp [go_sem], by simp [go_sem], by simp [go_sem], by simp [go_sem], by simp [go_sem], by simp [go_sem], by simp [go_sem], by simp [go_sem], by simp [go_sem], by simp [go_sem], by simp [go_sem], by simp [go_sem]⟩

end Go.Proofs.YtfokolanjjiicaaDoor
