/-
  Maps out of lists of pairs.
-/
import Derived.Test.YteebbaleejbodaaARSee

namespace Go.Proofs.Yteebbaleejbodaa
open Go.RowKit Go.Maps
set_option linter.unusedVariables false

/-- What the last of each key tells. -/
def kvF (l : List ((Int × Int) × Value)) : Int → Int → Option Value := l.foldl (fun f e => upd f e.1.1 e.1.2 (some e.2)) (fun _ _ => none)
theorem kvF_snoc (l : List ((Int × Int) × Value)) (x y : Int) (v : Value) : kvF (l ++ [((x, y), v)]) = upd (kvF l) x y (some v) := by simp [kvF, List.foldl_append]

theorem kvF_gen : ∀ (l : List ((Int × Int) × Value)) (f : Int → Int → Option Value) (x y : Int), (l.foldl (fun f e => upd f e.1.1 e.1.2 (some e.2)) f x y).isSome = true ↔ (f x y).isSome = true ∨ (x, y) ∈ l.map (·.1)
  | [], f, x, y => by simp
  | e :: l, f, x, y => by
    rw [List.foldl_cons, kvF_gen l]
    unfold upd
    by_cases h : x = e.1.1 ∧ y = e.1.2
    · rw [if_pos h]
      have he : e.1 = (x, y) := by rw [h.1, h.2]
      simp [he]
    · rw [if_neg h]
      have he : (x, y) ≠ e.1 := fun he => h ⟨by rw [← he], by rw [← he]⟩
      simp only [List.map_cons, List.mem_cons, he, false_or]
theorem kvF_some (l : List ((Int × Int) × Value)) (x y : Int) : (kvF l x y).isSome = true ↔ (x, y) ∈ l.map (·.1) := by
  unfold kvF
  rw [kvF_gen]
  simp

theorem kvF_at_gen : ∀ (l : List ((Int × Int) × Value)) (f : Int → Int → Option Value) (x y : Int) (v : Value), l.foldl (fun f e => upd f e.1.1 e.1.2 (some e.2)) f x y = some v → f x y = some v ∨ ((x, y), v) ∈ l
  | [], f, x, y, v, h => .inl h
  | e :: l, f, x, y, v, h => by
    rw [List.foldl_cons] at h
    rcases kvF_at_gen l _ x y v h with h | h
    · unfold upd at h
      split at h
      · rename_i h1
        simp at h
        refine .inr ?_
        have : e = ((x, y), v) := by rw [h1.1, h1.2, ← h]
        simp [this]
      · exact .inl h
    · exact .inr (by simp [h])
theorem kvF_at {l : List ((Int × Int) × Value)} {x y : Int} {v : Value} (h : kvF l x y = some v) : ((x, y), v) ∈ l := by
  rcases kvF_at_gen l _ x y v h with h | h
  · cases h
  · exact h

theorem nodup_at {l : List ((Int × Int) × Value)} (hd : (l.map (·.1)).Nodup) {q : Int × Int} {v v' : Value} (h : (q, v) ∈ l) (h' : (q, v') ∈ l) : v = v' := by
  induction l with
  | nil => simp at h
  | cons e l ih =>
    rw [List.map_cons, List.nodup_cons] at hd
    rcases List.mem_cons.1 h with h1 | h1 <;> rcases List.mem_cons.1 h' with h2 | h2
    · rw [← h1] at h2; simp at h2; exact h2.symm
    · exact absurd (List.mem_map.2 ⟨_, h2, by rw [← h1]⟩) hd.1
    · exact absurd (List.mem_map.2 ⟨_, h1, by rw [← h2]⟩) hd.1
    · exact ih hd.2 h1 h2
theorem kvF_mem {l : List ((Int × Int) × Value)} (hd : (l.map (·.1)).Nodup) {x y : Int} {v : Value} (h : ((x, y), v) ∈ l) : kvF l x y = some v := by
  have h1 := (kvF_some l x y).2 (List.mem_map.2 ⟨_, h, rfl⟩)
  obtain ⟨v', hv'⟩ := Option.isSome_iff_exists.1 h1
  rw [hv', nodup_at hd (kvF_at hv') h]

/-- Block b is the map of l; as many entries as keys. -/
def MapK (K : TypeId) (w : World) (b : Nat) (l : List ((Int × Int) × Value)) (sz : Nat) : Prop := MapF K w b (kvF l) sz ∧ sz ≤ l.length ∧ (sz = l.length ↔ (l.map (·.1)).Nodup)

theorem nodup_snoc {l : List (Int × Int)} {q : Int × Int} : (l ++ [q]).Nodup ↔ l.Nodup ∧ q ∉ l := by
  rw [List.nodup_append]
  constructor
  · rintro ⟨h1, _, h3⟩
    exact ⟨h1, fun h => h3 q h q (by simp) rfl⟩
  · rintro ⟨h1, h2⟩
    exact ⟨h1, by simp, fun a ha b hb e => h2 (by simp at hb; rw [← hb, ← e]; exact ha)⟩

section
variable {K : TypeId} {w w' : World} {b sz : Nat} {l : List ((Int × Int) × Value)}
theorem MapK.made (K : TypeId) (w : World) : MapK K (w.alloc (.map #[] 0)) w.heap.size [] 0 := ⟨MapF.made K w, Nat.le_refl _, by simp⟩
theorem MapK.below (h : MapK K w b l sz) (hb : Below w.heap.size w w') : MapK K w' b l sz := ⟨h.1.below hb, h.2⟩
theorem MapK.add (h : MapK K w b l sz) {x y : Int} {v : Value} (h' : MapF K w' b (upd (kvF l) x y (some v)) (nSz (kvF l x y) sz)) : MapK K w' b (l ++ [((x, y), v)]) (nSz (kvF l x y) sz) := by
  refine ⟨by rw [kvF_snoc]; exact h', ?_, ?_⟩
  · have := nSz_le (kvF l x y) sz
    have := h.2.1
    rw [List.length_append]; simp; omega
  · rw [List.map_append, List.map_cons, List.map_nil, nodup_snoc, ← h.2.2, ← kvF_some, List.length_append]
    have := h.2.1
    unfold nSz
    cases (kvF l x y).isSome <;> simp <;> omega
end

theorem mvF_at (xs : List Spt) : ∀ a b v, mvF xs a b = some v → ∃ x ∈ xs, x.c.f = 2 ∧ x.p = a ∧ x.s = b ∧ v = rowV x := by
  have : ∀ (l : List Spt) (f : Int → Int → Option Value) a b v, (l.foldl mvS f) a b = some v → f a b = some v ∨ ∃ x ∈ l, x.c.f = 2 ∧ x.p = a ∧ x.s = b ∧ v = rowV x := by
    intro l
    induction l with
    | nil => intro f a b v h; exact .inl h
    | cons z l ih =>
      intro f a b v h
      rcases ih _ a b v h with h | ⟨x, hx, r⟩
      · unfold mvS at h
        split at h
        · rename_i h2
          unfold upd at h
          split at h
          · rename_i h1
            simp at h
            exact .inr ⟨z, by simp, h2, h1.1.symm, h1.2.symm, h.symm⟩
          · exact .inl h
        · exact .inl h
      · exact .inr ⟨x, by simp [hx], r⟩
  intro a b v h
  rcases this xs _ a b v h with h | h
  · cases h
  · exact h

/-- Rows that are seen have small keys. -/
theorem plF_ok {xs : List Spt} (hk : ∀ x ∈ xs, SpOk x) : ∀ y ∈ plF (mvF xs) xs, small y.r.t ∧ small y.r.k ∧ y.q = 0 ∧ y.r.s.size ≤ 64 := by
  intro y hy
  obtain ⟨x, hx, h⟩ := List.mem_flatMap.1 hy
  have hs0 : small 0 := ⟨by omega, by omega⟩
  unfold see1 at h
  split at h
  · simp at h; subst h; exact ⟨(hk x hx).ct, (hk x hx).ck, rfl, (hk x hx).sz⟩
  · split at h
    · simp at h
      subst h
      cases hf : mvF xs x.c.p x.c.l with
      | none => exact ⟨hs0, hs0, rfl, Nat.zero_le _⟩
      | some v =>
        obtain ⟨z, hz, _, _, _, rfl⟩ := mvF_at xs _ _ _ hf
        exact ⟨(hk z hz).ct, (hk z hz).ck, rfl, (hk z hz).sz⟩
    · simp at h

/-- Cells of right pages. -/
theorem unp_small (zs : List Int) (hz : ∀ z ∈ zs, 0 ≤ z ∧ z ≤ 255) : small (unp zs).p ∧ small (unp zs).l ∧ small (unp zs).t ∧ small (unp zs).k ∧ ((unp zs).q = 0 → (unp zs).f = 0 ∨ (unp zs).f = 1 ∨ (unp zs).f = 2) ∧ (unp zs).s.size ≤ zs.length := by
  have hg := fun i => getD_range hz i
  have hs0 : small 0 := ⟨by omega, by omega⟩
  have sm : ∀ i, small (zs.getD i 0) := fun i => ⟨(hg i).1, by have := (hg i).2; omega⟩
  have he : small errC.p ∧ small errC.l ∧ small errC.t ∧ small errC.k ∧ (errC.q = 0 → errC.f = 0 ∨ errC.f = 1 ∨ errC.f = 2) ∧ errC.s.size ≤ zs.length := ⟨hs0, hs0, hs0, hs0, fun _ => .inl rfl, Nat.zero_le _⟩
  unfold unp
  split
  · exact he
  · split
    · unfold stubC; split
      · exact ⟨sm 1, sm 2, hs0, hs0, fun _ => .inr (.inl rfl), Nat.zero_le _⟩
      · exact he
    · split
      · rename_i h02
        unfold rowC; split
        · exact ⟨hs0, hs0, sm 1, sm 2, fun _ => by rcases h02 with h | h; exact .inl h; exact .inr (.inr h), by have := textC_size zs; simp only at this ⊢; omega⟩
        · exact he
      · exact he

theorem cellsTo_mem (p : Int) (zs : List Int) : ∀ k x, x ∈ cellsTo p zs k → ∃ s, s < k ∧ empB zs s = false ∧ x = ⟨p, s, unp (cellOf zs s)⟩
  | 0, x, h => by simp [cellsTo] at h
  | k + 1, x, h => by
    simp only [cellsTo, List.mem_append] at h
    rcases h with h | h
    · obtain ⟨s, h1, h2⟩ := cellsTo_mem p zs k x h
      exact ⟨s, by omega, h2⟩
    · unfold oneC at h
      split at h
      · simp at h
      · rename_i he
        simp at h
        exact ⟨k, by omega, by simpa using he, h⟩
theorem badTo_not {zs : List Int} : ∀ {n : Nat}, badTo zs n = false → ∀ s, s < n → badAt zs s = false
  | 0, _, s, hs => by omega
  | n + 1, h, s, hs => by
    simp only [badTo, Bool.or_eq_false_iff] at h
    by_cases e : s = n
    · rw [e]; exact h.2
    · exact badTo_not h.1 s (by omega)

theorem pageL_ok (p : Nat) (hp : p ≤ 1000) {zs : List Int} (hz : ∀ z ∈ zs, 0 ≤ z ∧ z ≤ 255) : ∀ x ∈ pageL p zs, SpOk x := by
  intro x hx
  unfold pageL at hx
  split at hx
  · rename_i h0
    obtain ⟨h1, h2⟩ := pageC_fine h0
    have hF := fine_of hz h1
    obtain ⟨s, hs, he, rfl⟩ := cellsTo_mem _ _ _ _ hx
    have hb := badTo_not h2 s hs
    have hq : (unp (cellOf zs s)).q = 0 := by
      unfold badAt at hb
      rw [he] at hb
      simpa using hb
    have hzc : ∀ z ∈ cellOf zs s, 0 ≤ z ∧ z ≤ 255 := fun z h => hz z (List.mem_of_mem_drop (List.mem_of_mem_take h))
    obtain ⟨u1, u2, u3, u4, u5, u6⟩ := unp_small (cellOf zs s) hzc
    have hl := cellOf_length hF s hs
    have he64 := hF.end64 s hs
    have hfew := hF.few
    exact ⟨⟨by simp only; omega, by simp only; omega⟩, ⟨by simp only; omega, by simp only; omega⟩, u1, u2, u3, u4, hq, u5 hq, by simp only; omega⟩
  · simp at hx

theorem spotsOf_ok : ∀ (l : List (List Int)) (p : Nat), p + l.length ≤ 1000 → PgOk l → ∀ x ∈ spotsOf p l, SpOk x
  | [], _, _, _, x, h => by simp [spotsOf] at h
  | z :: l, p, hp, h, x, hx => by
    simp only [List.length_cons] at hp
    simp only [spotsOf, List.mem_append] at hx
    rcases hx with hx | hx
    · exact pageL_ok p (by omega) (h z (by simp)).2 x hx
    · exact spotsOf_ok l (p + 1) (by omega) (fun y hy => h y (by simp [hy])) x hx

theorem allL_ok {ps : List (List Int)} (hp : PgOk ps) : (∀ x ∈ allL ps, SpOk x) ∧ (allL ps).length ≤ 200 := by
  unfold allL
  split
  · rename_i h
    have h12 : ps.length ≤ 12 := by
      unfold allQ at h
      split at h
      · simp at h
      · omega
    refine ⟨spotsOf_ok ps 0 (by omega) hp, ?_⟩
    have := spotsOf_len ps 0 hp
    omega
  · exact ⟨fun x hx => by simp at hx, by simp⟩

end Go.Proofs.Yteebbaleejbodaa

/-
  The model's l2Cell once more, with the capacity; l6Cells.
-/
namespace Go.Proofs.Yteebbaleejbodaa
open Go.RowKit Go.Maps
set_option linter.unusedVariables false

set_option maxHeartbeats 1000000 in
theorem l2CellC_any (a : Option Addr) (zs : List Int) (c s : Nat) (w : World) (hr : Reads w a zs) (h : Fine zs) (hc : 64 ≤ c) (hs : s < nb zs 0) (hh : empB zs s = false) :
    Calls Try.prog 158 #[.slice a 64 c, .int .i64 s] w fun e w' => ∃ a' d, e = .returned (.slice a' (nb zs (3 + 2 * s)) d) ∧ nb zs (3 + 2 * s) ≤ d ∧ Below w.heap.size w w' ∧ BytesIn w.heap.size w'.heap.size w' a' (cellOf zs s) := by
  obtain ⟨i0, hi, hz0, hz1, hz2⟩ := info5
  have hfew := h.few
  have hlen := cellOf_length h s hs
  have hpl := h.place s hs
  obtain ⟨b, off, rfl, hcells⟩ := hr.page h.pg
  have hb0 : b < w.heap.size := World.block_lt_of_cell? w _ (hcells 0 (by omega))
  clear hcells
  obtain ⟨p, hp⟩ : ∃ p, p = nb zs (2 + 2 * s) := ⟨_, rfl⟩
  obtain ⟨l, hl⟩ : ∃ l, l = nb zs (3 + 2 * s) := ⟨_, rfl⟩
  rw [← hp, ← hl] at hpl
  rw [← hl] at hlen ⊢
  have hsrc : Reads w (some ⟨b, off + p, none⟩) (cellOf zs s) := by unfold cellOf; rw [← hp, ← hl]; exact hr.cell p l (by rw [h.pg.len]; omega)
  have HP : Hid (nb zs (2 + 2 * s) = p) := hp.symm
  have HL : Hid (nb zs (3 + 2 * s) = l) := hl.symm
  have hne : ¬ (p = 0 ∧ l = 0) := fun e => by simp [empB, ← hp, ← hl, e.1, e.2] at hh
  have hpl2 : p ≠ 0 ∧ l ≠ 0 ∧ p + l ≤ 64 := by omega
  obtain ⟨hp0, hl0, hpl64⟩ := hpl2
  clear hp hl hpl hne hh
  generalize cellOf zs s = ys at hlen hsrc
  have hO : (w.alloc (.cells #[] 5)).ownsRow w.heap.size 5 1 (.slice (some ⟨w.heap.size, 0, none⟩) 0 0) 0 [] := by simpa using World.ownsRow_lit (base := w.heap.size) (e := 5) (size := 1) w #[] 0 (Nat.le_refl _) (by unfold maxLen; omega) rfl
  have hll : (ys.map (Value.int .u8)).length = l * 1 := by simpa using hlen
  go_enter Try.func158, Try.ntmps158
  go_wp2_with fail
  refine (l2Place_any _ zs c s _ hr h.pg (by omega)).mono ?_
  rintro e w' ⟨rfl, hw'⟩
  subst w'
  rw [HP.out]
  go_wp2_with fail
  refine (l2Size_any _ zs c s _ (hr.below (B := w.heap.size) (by go_grown) (Nat.le_refl _)) h.pg (by omega)).mono ?_
  rintro e w' ⟨rfl, hw'⟩
  subst w'
  rw [HL.out]
  have i1 : (p : Int) + (l : Int) ≤ 64 := by omega
  have i2 : (p : Int) + (l : Int) ≤ (c : Int) := by omega
  have i3 : ¬ (c = p) := by omega
  have HPP : Hid (p + l - p = l) := Nat.add_sub_cancel_left ..
  have hll2 : (ys.map (Value.int .u8)).length = (p + l - p) * 1 := by rw [HPP.out]; exact hll
  go_wp2_with (at_builtin; go_must (refine wpList_append_own _ rfl _ _ 106 rfl w.heap.size 5 i0 (.int .u8 0) 1 1 Try.underlying106 hi hz0 hz1 hz2 rfl (by decide) _ _ _ rfl hO ⟨b, off + p, none⟩ (p + l - p) (c - p) (ys.map (Value.int .u8)) rfl hll2 ?c1 ?c2 ?c3 ?c4 ?c5 ?_))
  case c1 =>
    intro j u hu
    exact reads_src (hsrc.below (B := w.heap.size) (by go_grown) (Nat.le_refl _)) j u hu
  case c2 =>
    intro u hu
    rw [List.mem_map] at hu
    obtain ⟨z, _, rfl⟩ := hu
    rfl
  case c3 => unfold maxLen; omega
  case c4 => omega
  case c5 => simp
  intro v' w1 hown' hgrow _
  have hB' : Below w.heap.size w w1 := Below.grown ((Below.refl _ _).alloc (Nat.le_refl _) _) hgrow (by simp) (fun j hj => by simp [Value.ownBlock] at hj; omega)
  clear hgrow
  go_wp2_with fail
  go_ret
  have hown : w1.ownsRow w.heap.size 5 1 v' l (ys.map (Value.int .u8)) := hown'
  obtain ⟨g, cap, rfl⟩ := Joins.ownsRow_form hown (by omega)
  have hcap : l ≤ cap := by
    rcases hown.2 with ⟨e, _⟩ | ⟨g', cap', cur, e, _, _, h3, _⟩
    · cases e
    · cases e; exact h3
  exact ⟨_, _, rfl, hcap, hB', bytesIn_owns hown⟩


theorem read_ok (zs : List Int) : (readC zs).2 = decide ((unp zs).q = 0) := by
  have h := unp_read zs
  cases hr : (readC zs).2
  · rw [hr] at h; rw [h]; rfl
  · rw [hr] at h
    rw [h]
    have : (readC zs).1.q = 0 := by unfold readC; split <;> (try split) <;> rfl
    simp [this]
theorem read_unp {zs : List Int} (h : (unp zs).q = 0) : (readC zs).1 = unp zs ∧ (readC zs).2 = true := by
  have h2 : (readC zs).2 = true := by rw [read_ok, h]; rfl
  exact ⟨by rw [unp_read, if_pos h2], h2⟩

theorem Fine.size_emp {zs : List Int} (h : Fine zs) {s : Nat} (hs : s < nb zs 0) : (nb zs (3 + 2 * s) = 0 ↔ empB zs s = true) := by
  have := h.place s hs
  unfold empB
  simp
  omega

set_option maxHeartbeats 4000000 in
theorem l6Cells_any (a : Option Addr) (ps : List (List Int)) (n c : Nat) (w : World) (hn : ps.length = n) (hm : n ≤ 12) (hp : PgOk ps) (hr : PgRead w a ps) :
    Calls Try.prog 118 #[.slice a n c] w fun e w' => e = .returned (.int .i64 (pagesQ ps)) ∧ Below w.heap.size w w' := by
  have HN : Hid (ps.length = n) := hn
  have HR : Hid (PgRead w a ps) := hr
  have HP : Hid (PgOk ps) := hp
  clear hn hr hp
  go_enter Try.func118, Try.ntmps118
  go_wp2_with fail
  go_loopw [3] (fun i wr => ∃ j : Nat, j ≤ n ∧ i = .int .i64 j ∧ Hid (pagesQ ps = pagesQ (ps.drop j)) ∧ Below w.heap.size w wr) (fun i _ => n - (intOf i).toNat)
  case atStart => exact ⟨0, Nat.zero_le _, rfl, rfl, Below.refl _ _⟩
  case round =>
    obtain ⟨j, hj, rfl, hq, g⟩ := hrel
    by_cases hlt : j < n
    · obtain ⟨zs, hzs⟩ := at_lt' (rs := ps) (i := j) (by rw [HN.out]; exact hlt)
      obtain ⟨b, off, x, cx, rfl, e0, hcx, hx⟩ := HR.out.page hzs
      have HE : Hid (∀ W, Below w.heap.size w W → W.cell? ⟨b, off + j, none⟩ = some (.slice x zs.length cx) ∧ Reads W x zs) := fun W hW => ⟨(hW.cell (p := ⟨b, _, none⟩) (World.block_lt_of_cell? w _ e0)).trans e0, hx.below hW (Nat.le_refl _)⟩
      clear e0 hx
      have hjn : (j : Int) < (n : Int) := by omega
      obtain ⟨hz1, hz2⟩ := HP.out zs (List.mem_of_getElem? hzs)
      have hq1 : Hid (pagesQ ps = if pageC zs = 0 then pagesQ (ps.drop (j + 1)) else pageC zs) := by
        show _ = _
        rw [hq.out, drop_cons hzs]; rfl
      clear hq hzs
      obtain ⟨e0, hx⟩ := HE.out _ g
      have HX : Hid (Reads wr x zs) := hx
      have HZ : Hid (∀ z ∈ zs, 0 ≤ z ∧ z ≤ 255) := hz2
      clear hx hz2
      obtain ⟨m, hm0⟩ : ∃ m, m = zs.length := ⟨_, rfl⟩
      have HM0 : Hid (zs.length = m) := hm0.symm
      rw [← hm0] at e0 hz1 hcx HE
      clear hm0
      go_wp2_with fail
      refine (l2Fault_all x zs m cx _ HM0.out hz1 HX.out HZ.out).mono ?_
      rintro e w' ⟨rfl, hw'⟩
      subst w'
      clear e0
      obtain ⟨f, hf⟩ : ∃ f, f = fltOf zs := ⟨_, rfl⟩
      rw [← hf]
      by_cases hf0 : f = 0
      · subst hf0
        have hF := fine_of HZ.out hf.symm
        have hm64 : m = 64 := by rw [← HM0.out]; exact hF.pg.len
        subst hm64
        have hq2 : Hid (pagesQ ps = if badTo zs (nb zs 0) = true then 5 else pagesQ (ps.drop (j + 1))) := by
          show _ = _
          have : pageC zs = if badTo zs (nb zs 0) = true then 5 else 0 := by unfold pageC; rw [if_pos hf.symm]
          rw [hq1.out, this]
          by_cases hb : badTo zs (nb zs 0) = true
          · simp only [if_pos hb]; rw [if_neg (by decide)]
          · simp only [if_neg hb, if_true]
        have hfew := hF.few
        have HF : Hid (Fine zs) := hF
        obtain ⟨m, hm1⟩ : ∃ m, m = nb zs 0 := ⟨_, rfl⟩
        have HM : Hid (nb zs 0 = m) := hm1.symm
        rw [← hm1] at hfew
        clear hm1 hf hF hq1 HM0 hz1
        go_wp2_with fail
        go_loopw [5] (fun i wr => ∃ k : Nat, k ≤ m ∧ i = .int .i64 k ∧ Hid (badTo zs k = false) ∧ Below w.heap.size w wr) (fun i _ => m - (intOf i).toNat)
        case atStart => exact ⟨0, Nat.zero_le _, rfl, rfl, g⟩
        case round =>
          clear g HX
          obtain ⟨k, hk, rfl, hb, g⟩ := hrel
          obtain ⟨e0, hx⟩ := HE.out _ g
          have HX : Hid (Reads _ x zs) := hx
          clear hx
          go_wp2_with fail
          refine (l2Count_any x zs cx _ HX.out HF.out.pg).mono ?_
          rintro e w' ⟨rfl, hw'⟩
          subst w'
          rw [HM.out]
          by_cases hlt2 : k < m
          · have hkm : (k : Int) < (m : Int) := by omega
            go_wp2_with fail
            refine (l2Size_any x zs cx k _ HX.out HF.out.pg (by omega)).mono ?_
            rintro e w' ⟨rfl, hw'⟩
            subst w'
            have hse := HF.out.size_emp (s := k) (by rw [HM.out]; exact hlt2)
            cases he : empB zs k
            · have hbad : badAt zs k = !(readC (cellOf zs k)).2 := by unfold badAt; rw [he, read_ok]; simp
              have hl0 : nb zs (3 + 2 * k) ≠ 0 := fun e => by rw [hse.1 e] at he; cases he
              have hcl := l2CellC_any x zs cx k
              have hzc : ∀ z ∈ cellOf zs k, 0 ≤ z ∧ z ≤ 255 := fun z hz' => HZ.out z (List.mem_of_mem_drop (List.mem_of_mem_take hz'))
              have hclen := cellOf_length HF.out k (by rw [HM.out]; exact hlt2)
              have HCl : Hid (∀ W, Reads W x zs → Calls Try.prog 158 #[.slice x 64 cx, .int .i64 k] W fun e w' => ∃ a' d, e = .returned (.slice a' (nb zs (3 + 2 * k)) d) ∧ nb zs (3 + 2 * k) ≤ d ∧ Below W.heap.size W w' ∧ BytesIn W.heap.size w'.heap.size w' a' (cellOf zs k)) := fun W hW => l2CellC_any x zs cx k W hW HF.out hcx (by rw [HM.out]; exact hlt2) he
              obtain ⟨cq, cf, cp, cl, ct, ck, cv, cs, hu⟩ := celV_form (readC (cellOf zs k)).1
              have HRd : Hid (∀ W a' d, nb zs (3 + 2 * k) ≤ d → Reads W a' (cellOf zs k) → Calls Try.prog 157 #[.slice a' (nb zs (3 + 2 * k)) d] W fun e w' => e = .returned (.tuple #[.agg #[.int .i64 cq, .int .i64 cf, .int .i64 cp, .int .i64 cl, .int .i64 ct, .int .i64 ck, .int .i64 cv, .string cs], .bool (readC (cellOf zs k)).2]) ∧ Below W.heap.size W w') := fun W a' d hd hW => by
                have := l1Read_any a' (cellOf zs k) _ d W hclen hd hW hzc
                rw [hu] at this
                exact this
              generalize nb zs (3 + 2 * k) = l at HCl HRd hl0 ⊢
              have HBd : Hid (badAt zs k = !(readC (cellOf zs k)).2) := hbad
              generalize (readC (cellOf zs k)).2 = ok at HRd HBd
              have hlp : (0 : Int) < (l : Int) := by omega
              clear hse he hcl hzc hclen hu hbad
              go_wp2_with fail
              refine (HCl.out _ HX.out).mono ?_
              rintro e w2 ⟨a2, d2, rfl, hd2, g2, y2⟩
              have r2 := y2.reads
              have g3 := g.trans (g2.mono g.size)
              clear y2 g2 e0
              go_wp2_with fail
              refine (HRd.out _ a2 d2 hd2 r2).mono ?_
              rintro e w3 ⟨rfl, g4⟩
              have g5 := g3.trans (g4.mono g3.size)
              have hgs5 := g5.size
              clear r2 g4 g3
              cases ok
              · have HQ : Hid (pagesQ ps = 5) := by
                  show _ = _
                  rw [hq2.out, HM.out, if_pos (badTo_at (k := k) (by rw [HBd.out]; rfl) hlt2)]
                go_wp2_with fail
                go_ret
                exact ⟨by rw [HQ.out]; rfl, by go_grown⟩
              · have HB2 : Hid (badTo zs (k + 1) = false) := by show _ = _; simp only [badTo, hb.out, HBd.out]; rfl
                go_wp2_with fail
                go_roundw
                case rel => exact ⟨k + 1, by omega, by go_num, HB2, by go_grown⟩
                case measure => simp [intOf]; omega
            · have hl0 : nb zs (3 + 2 * k) = 0 := hse.2 he
              have HB2 : Hid (badTo zs (k + 1) = false) := by show _ = _; simp only [badTo, hb.out, badAt, he]; rfl
              rw [hl0]
              clear he hse hl0
              go_wp2_with fail
              go_roundw
              case rel => exact ⟨k + 1, by omega, by go_num, HB2, g⟩
              case measure => simp [intOf]; omega
          · have e : k = m := by omega
            subst e
            have hq3 : Hid (pagesQ ps = pagesQ (ps.drop (j + 1))) := by show _ = _; rw [hq2.out, HM.out, if_neg (by rw [hb.out]; decide)]
            go_wp2_with fail
            go_roundw
            case rel => exact ⟨j + 1, by omega, by go_num, hq3, g⟩
            case measure => simp [intOf]; omega
      · have HQ : Hid (pagesQ ps = f) := by
          show _ = _
          have : pageC zs = f := by unfold pageC; rw [← hf, if_neg hf0]
          rw [hq1.out, this, if_neg hf0]
        have df : (f != 0) = true := by simpa using hf0
        clear hf
        go_wp2_with fail
        go_ret
        exact ⟨by rw [HQ.out]; rfl, g⟩
    · have e : j = n := by omega
      subst e
      have HQ : Hid (pagesQ ps = 0) := by show _ = _; rw [hq.out, List.drop_of_length_le (by rw [HN.out]; exact Nat.le_refl _)]; rfl
      go_wp2_with fail
      go_ret
      exact ⟨by rw [HQ.out]; rfl, g⟩

end Go.Proofs.Yteebbaleejbodaa
