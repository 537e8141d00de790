/-
  Structs appended to a slice of one's own, from whatever slice.
-/
import Derived.Test.YteebbaleejbodaaARVci
import Derived.Lib.AppendZeros

namespace Go.Proofs.Yteebbaleejbodaa
open Go.RowKit
set_option linter.unusedVariables false

section
variable {α : Type} {enc : α → List Value} {k : Nat}

/-- What is known of slices of type T, of elements of type E that are told by enc. -/
structure ElT (T E : Nat) (enc : α → List Value) (k bytes : Nat) : Prop where
  und : Try.prog.underlying T = some (.slice E)
  inf : ∃ i z, Try.prog.info? E = some i ∧ i.zero = some z ∧ i.size = k ∧ i.bytes = bytes ∧ z.cells.size = k
  len : ∀ x, (enc x).length = k
  one : ∀ x, ∀ u ∈ enc x, u.oneCell' = true
  pos : 0 < k
  few : bytes ≤ 1000

theorem run_append_none_any {P : Program} (w : World) (base : Nat) (t ty e : TypeId) (i : TypeInfo) (size c : Nat) (ht : P.underlying t = some (.slice e)) (hi : P.info? e = some i)
    (v : Value) (n : Nat) (xs : List Value) (hown : w.ownsRow base e size v n xs) : (Builtin.append_ #[t, t] ty #[v, .slice none 0 c]).run P w = .ok v w := by
  rcases hown.2 with ⟨rfl, rfl⟩ | ⟨g, cap, cur, rfl, _, _, hnc, _⟩
  · simp [Builtin.append_, run_underlying ht, sizeOf, typeInfo, hi, Builtin.lenOf, Builtin.firstCells]
  · simp [Builtin.append_, run_underlying ht, sizeOf, typeInfo, hi, Builtin.lenOf, Builtin.firstCells, hnc, storeCells]

theorem flat_one' (h : ∀ x, ∀ u ∈ enc x, u.oneCell' = true) (xs : List α) : ∀ u ∈ flat enc xs, u.oneCell' = true := by
  intro u hu
  obtain ⟨x, _, hx⟩ := List.mem_flatMap.1 hu
  exact h x u hx

theorem Rs.flatAt {w : World} {b off : Nat} {xs : List α} (hk : ∀ x, (enc x).length = k) (hp : 0 < k) (h : ∀ i x, xs[i]? = some x → ∀ j u, (enc x)[j]? = some u → w.cell? ⟨b, off + i * k + j, none⟩ = some u) : ∀ j u, (flat enc xs)[j]? = some u → w.cell? ((⟨b, off, none⟩ : Addr).add j) = some u := by
  intro j u hu
  have ea : (⟨b, off, none⟩ : Addr).add j = ⟨b, off + j, none⟩ := by unfold Addr.add; split <;> simp_all
  rw [ea]
  have hlt : j < xs.length * k := by rw [← flat_length hk xs]; exact (List.getElem?_eq_some_iff.1 hu).1
  have hi : j / k < xs.length := Nat.div_lt_of_lt_mul (by rw [Nat.mul_comm]; exact hlt)
  have hx : xs[j / k]? = some xs[j / k] := List.getElem?_eq_getElem hi
  have hm := Nat.mod_lt j hp
  have hj : j / k * k + j % k = j := by rw [Nat.mul_comm]; exact Nat.div_add_mod j k
  have e := flat_at hk xs (j / k) (j % k) _ hx hm
  rw [hj, hu] at e
  have := h _ _ hx (j % k) u e.symm
  rw [Nat.add_assoc, hj] at this
  exact this

theorem run_append_sl {T E bytes : Nat} (L : ElT T E enc k bytes) (w : World) (base : Nat) (ty : TypeId) (v : Value) (xs ys : List α) (x : Option Addr) (c : Nat) (hown : w.ownsRow base E k v xs.length (flat enc xs)) (hr : Rs enc k w x ys) (hl : xs.length + ys.length ≤ 100000000) (hb : base ≤ w.heap.size) :
    ∃ v' w', (Builtin.append_ #[T, T] ty #[v, .slice x ys.length c]).run Try.prog w = .ok v' w' ∧ w'.ownsRow base E k v' (xs ++ ys).length (flat enc (xs ++ ys)) ∧ w.grownBy w' v.ownBlock ∧ (v'.ownBlock = v.ownBlock ∨ v'.ownBlock = some w.heap.size) := by
  obtain ⟨i0, z, hi0, hz0, hz1, hz2, hz3⟩ := L.inf
  have hf := L.few
  have fin : ∀ (a : Addr), x = some a → (∀ j u, (flat enc ys)[j]? = some u → w.cell? (a.add j) = some u) → ∃ v' w', (Builtin.append_ #[T, T] ty #[v, .slice x ys.length c]).run Try.prog w = .ok v' w' ∧ w'.ownsRow base E k v' (xs ++ ys).length (flat enc (xs ++ ys)) ∧ w.grownBy w' v.ownBlock ∧ (v'.ownBlock = v.ownBlock ∨ v'.ownBlock = some w.heap.size) := fun a ha hc => by
    subst ha
    obtain ⟨v', w', h1, h2, h3, _, h5⟩ := run_append_own_at (P := Try.prog) w base T ty E i0 z k bytes L.und hi0 hz0 hz1 hz2 hz3 L.pos v xs.length (flat enc xs) hown a ys.length c (flat enc ys) (flat_length L.len ys) hc (flat_one' L.one ys) (by unfold maxLen; omega) (by
      have : (xs.length + ys.length) * bytes ≤ 100000000 * 1000 := Nat.mul_le_mul hl hf
      omega) hb
    exact ⟨v', w', h1, by rw [List.length_append, flat_append]; exact h2, h3, h5⟩
  rcases hr with h | ⟨b, off, ha, hc⟩
  · subst h
    cases x with
    | some a => exact fin a rfl (fun j u h => by simp [flat] at h)
    | none => exact ⟨v, w, run_append_none_any w base T ty E i0 k c L.und hi0 v xs.length _ hown, by rw [List.append_nil]; exact hown, ⟨rfl, rfl, rfl, Nat.le_refl _, fun _ _ _ => rfl⟩, .inl rfl⟩
  · exact fin ⟨b, off, none⟩ ha (Rs.flatAt L.len L.pos hc)

theorem wp_append_sl {T E bytes : Nat} (L : ElT T E enc k bytes) (w : World) {o : Oper} {a : Act} {K : Act → World → Prop} {Q : Exit → Act → World → Prop} (s x : Operand)
    (ho : o.op = .call { callee := .builtin .append, args := #[s, x], argTypes := #[T, T] }) (base : Nat) (v : Value) (xs ys : List α) (ax : Option Addr) (n c : Nat) (hs : a.eval s = v) (hx : a.eval x = .slice ax n c) (hn : ys.length = n)
    (hown : w.ownsRow base E k v xs.length (flat enc xs)) (hr : Rs enc k w ax ys) (hl : xs.length + ys.length ≤ 100000000) (hb : base ≤ w.heap.size)
    (h : ∀ v' w', w'.ownsRow base E k v' (xs ++ ys).length (flat enc (xs ++ ys)) → w.grownBy w' v.ownBlock → (v'.ownBlock = v.ownBlock ∨ v'.ownBlock = some w.heap.size) → K (a.put o.dst v') w') : o.wp Try.prog a w K Q := by
  subst hn
  obtain ⟨v', w', h1, h2, h3, h4⟩ := run_append_sl L w base o.type v xs ys ax c hown hr hl hb
  exact Go.Lib.wp_append_run w s x T T ho v _ hs hx v' w' h1 (h v' w' h2 h3 h4)

theorem wpList_append_sl {T E bytes : Nat} (L : ElT T E enc k bytes) (w : World) {ops : Array Oper} {rest : List Oper} {o : Oper} {a : Act} {Q : Exit → Act → World → Prop} (hgd : o.guard = none) (s x : Operand)
    (ho : o.op = .call { callee := .builtin .append, args := #[s, x], argTypes := #[T, T] }) (base : Nat) (v : Value) (xs ys : List α) (ax : Option Addr) (n c : Nat) (hs : a.eval s = v) (hx : a.eval x = .slice ax n c) (hn : ys.length = n)
    (hown : w.ownsRow base E k v xs.length (flat enc xs)) (hr : Rs enc k w ax ys) (hl : xs.length + ys.length ≤ 100000000) (hb : base ≤ w.heap.size)
    (h : ∀ v' w', w'.ownsRow base E k v' (xs ++ ys).length (flat enc (xs ++ ys)) → w.grownBy w' v.ownBlock → (v'.ownBlock = v.ownBlock ∨ v'.ownBlock = some w.heap.size) → wpList Try.prog ops Q rest (a.put o.dst v') w') : wpList Try.prog ops Q (o :: rest) a w :=
  wpList_plain hgd fun _ hK => wp_append_sl L w s x ho base v xs ys ax n c hs hx hn hown hr hl hb (fun v' w' h1 h2 h3 => hK _ _ (h v' w' h1 h2 h3))

/-- One element, laid in a new block of its own. -/
theorem wpList_append_one {T E bytes : Nat} (L : ElT T E enc k bytes) (w : World) {ops : Array Oper} {rest : List Oper} {o : Oper} {a : Act} {Q : Exit → Act → World → Prop} (hgd : o.guard = none) (s x : Operand)
    (ho : o.op = .call { callee := .builtin .append, args := #[s, x], argTypes := #[T, T] }) (base : Nat) (v : Value) (xs : List α) (y : α) (hs : a.eval s = v) (hx : a.eval x = .slice (some ⟨w.heap.size, 0, none⟩) 1 1)
    (hown : w.ownsRow base E k v xs.length (flat enc xs)) (hl : xs.length + 1 ≤ 100000000) (hb : base ≤ w.heap.size) (t : TypeId)
    (h : ∀ v' w', w'.ownsRow base E k v' (xs ++ [y]).length (flat enc (xs ++ [y])) → (w.alloc (.cells (enc y).toArray t)).grownBy w' v.ownBlock → (v'.ownBlock = v.ownBlock ∨ v'.ownBlock = some (w.heap.size + 1)) → wpList Try.prog ops Q rest (a.put o.dst v') w') : wpList Try.prog ops Q (o :: rest) a (w.alloc (.cells (enc y).toArray t)) := by
  have hb' : Below w.heap.size w (w.alloc (.cells (enc y).toArray t)) := (Below.refl _ _).alloc (Nat.le_refl _) _
  refine wpList_append_sl L _ hgd s x ho base v xs [y] (some ⟨w.heap.size, 0, none⟩) 1 1 hs hx rfl (ownsRow_below hown hb') (.inr ⟨_, 0, rfl, fun i z hz j u hu => ?_⟩) (by simpa using hl) (Nat.le_trans hb hb'.size) (fun v' w' h1 h2 h3 => h v' w' h1 h2 (by simpa using h3))
  have hi : i = 0 := by
    have := (List.getElem?_eq_some_iff.1 hz).1
    simp at this; exact this
  subst hi
  simp at hz
  subst hz
  have := cells_new w (enc y) t j u hu
  have ea : (⟨w.heap.size, 0, none⟩ : Addr).add j = ⟨w.heap.size, j, none⟩ := by unfold Addr.add; split <;> simp_all
  rw [ea] at this
  simpa using this
end

theorem elP : ElT 206 252 spE 10 88 where
  und := Try.underlying206
  inf := by obtain ⟨i, h1, h2, h3, h4⟩ := infoP; exact ⟨i, _, h1, h2, h3, h4, rfl⟩
  len := spE_len
  one := by intro x u hu; simp [spE] at hu; rcases hu with rfl | rfl | rfl | rfl | rfl | rfl | rfl | rfl | rfl | rfl <;> rfl
  pos := by decide
  few := by decide

end Go.Proofs.Yteebbaleejbodaa

/-
  All cells of pages: the program's allCells.
-/
namespace Go.Proofs.Yteebbaleejbodaa
open Go.RowKit
set_option linter.unusedVariables false

/-- The slice that begins at a reads as the pages ps. -/
def PgRead (w : World) (a : Option Addr) (ps : List (List Int)) : Prop :=
  ps = [] ∨ ∃ b off, a = some ⟨b, off, none⟩ ∧ ∀ i zs, ps[i]? = some zs → ∃ x c, w.cell? ⟨b, off + i, none⟩ = some (.slice x zs.length c) ∧ zs.length ≤ c ∧ Reads w x zs

theorem PgRead.below {w w' : World} {a : Option Addr} {ps : List (List Int)} (h : PgRead w a ps) {B : Nat} (hb : Below B w w') (hB : w.heap.size ≤ B) : PgRead w' a ps := by
  rcases h with h | ⟨b, off, ha, hc⟩
  · exact .inl h
  · refine .inr ⟨b, off, ha, fun i zs hz => ?_⟩
    obtain ⟨x, c, h0, h1, h2⟩ := hc i zs hz
    exact ⟨x, c, (hb.cell (p := ⟨b, _, none⟩) (Nat.lt_of_lt_of_le (World.block_lt_of_cell? w _ h0) hB)).trans h0, h1, h2.below hb hB⟩

theorem PgRead.page {w : World} {a : Option Addr} {ps : List (List Int)} (h : PgRead w a ps) {i : Nat} {zs : List Int} (hz : ps[i]? = some zs) : ∃ b off x c, a = some ⟨b, off, none⟩ ∧ w.cell? ⟨b, off + i, none⟩ = some (.slice x zs.length c) ∧ zs.length ≤ c ∧ Reads w x zs := by
  rcases h with h | ⟨b, off, ha, hc⟩
  · rw [h] at hz; simp at hz
  · obtain ⟨x, c, h0, h1, h2⟩ := hc i zs hz
    exact ⟨b, off, x, c, ha, h0, h1, h2⟩

/-- Bytes, and not too many. -/
def PgOk (ps : List (List Int)) : Prop := ∀ zs ∈ ps, zs.length ≤ 1048576 ∧ ∀ z ∈ zs, 0 ≤ z ∧ z ≤ 255

def pagesQ : List (List Int) → Int
  | [] => 0
  | z :: l => if pageC z = 0 then pagesQ l else pageC z
def spotsOf : Nat → List (List Int) → List Spt
  | _, [] => []
  | p, z :: l => pageL p z ++ spotsOf (p + 1) l
def allQ (ps : List (List Int)) : Int := if 12 < ps.length then 2 else pagesQ ps
def allL (ps : List (List Int)) : List Spt := if allQ ps = 0 then spotsOf 0 ps else []

theorem spotsOf_snoc (z : List Int) : ∀ (l : List (List Int)) (p : Nat), spotsOf p (l ++ [z]) = spotsOf p l ++ pageL (p + l.length : Nat) z
  | [], p => by simp [spotsOf]
  | y :: l, p => by
    have ih := spotsOf_snoc z l (p + 1)
    simp only [List.cons_append, spotsOf, ih, List.append_assoc, List.length_cons]
    rw [show p + 1 + l.length = p + (l.length + 1) by omega]

theorem take_snoc {α : Type} {l : List α} {j : Nat} {z : α} (h : l[j]? = some z) : l.take (j + 1) = l.take j ++ [z] := by
  obtain ⟨hl, e⟩ := List.getElem?_eq_some_iff.1 h
  rw [← e]; exact List.take_succ_eq_append_getElem hl
theorem drop_cons {α : Type} {l : List α} {j : Nat} {z : α} (h : l[j]? = some z) : l.drop j = z :: l.drop (j + 1) := by
  obtain ⟨hl, e⟩ := List.getElem?_eq_some_iff.1 h
  rw [← e]; exact List.drop_eq_getElem_cons hl
theorem at_lt' {α : Type} {rs : List α} {i : Nat} (h : i < rs.length) : ∃ r, rs[i]? = some r := ⟨rs[i], List.getElem?_eq_getElem h⟩

theorem pageC_fine {zs : List Int} (h : pageC zs = 0) : fltOf zs = 0 ∧ badTo zs (nb zs 0) = false := by
  unfold pageC at h
  split at h
  · rename_i h0
    refine ⟨h0, ?_⟩
    split at h
    · simp at h
    · rename_i h1; simpa using h1
  · rename_i h0; exact absurd h h0

theorem pageL_len (p : Int) {zs : List Int} (hz : ∀ z ∈ zs, 0 ≤ z ∧ z ≤ 255) : (pageL p zs).length ≤ 16 := by
  unfold pageL
  split
  · rename_i h
    have := (fine_of hz (pageC_fine h).1).few
    exact Nat.le_trans (cellsTo_len _ _ _) this
  · simp

theorem spotsOf_len : ∀ (l : List (List Int)) (p : Nat), PgOk l → (spotsOf p l).length ≤ 16 * l.length
  | [], _, _ => by simp [spotsOf]
  | z :: l, p, h => by
    have h1 := pageL_len p (h z (by simp)).2
    have h2 := spotsOf_len l (p + 1) (fun x hx => h x (by simp [hx]))
    simp only [spotsOf, List.length_append, List.length_cons]
    omega

set_option maxHeartbeats 2000000 in
theorem allCells_any (a : Option Addr) (ps : List (List Int)) (n c : Nat) (w : World) (hn : ps.length = n) (hm : n ≤ 9223372036854775807) (hp : PgOk ps) (hr : PgRead w a ps) :
    Calls Try.prog 149 #[.slice a n c] w fun e w' => ∃ v, e = .returned (.tuple #[v, .int .i64 (allQ ps)]) ∧ Below w.heap.size w w' ∧ w'.ownsRow w.heap.size 252 10 v (allL ps).length (flat spE (allL ps)) := by
  by_cases h12 : (12 : Int) < n
  · have HQ : Hid (allQ ps = 2) := by show _ = _; unfold allQ; rw [if_pos (by omega)]
    have HL : Hid (allL ps = []) := by show _ = _; unfold allL; rw [if_neg (by rw [HQ.out]; decide)]
    go_enter Try.func149, Try.ntmps149
    go_wp2_with fail
    go_ret2
    exact ⟨.slice none 0 0, by rw [HQ.out]; rfl, Below.refl _ _, by rw [HL.out]; exact ownsRow_nil _ _ _ _⟩
  have HQ : Hid (allQ ps = pagesQ ps) := by show _ = _; unfold allQ; rw [if_neg (by omega)]
  have d12 : decide ((12 : Int) < n) = false := by simpa using h12
  have hn12 : n ≤ 12 := by omega
  have HN : Hid (ps.length = n) := hn
  have HR : Hid (PgRead w a ps) := hr
  have HP : Hid (PgOk ps) := hp
  clear hn hr hp h12
  go_enter Try.func149, Try.ntmps149
  go_wp2_with fail
  go_loopw [14, 4] (fun i v wr => ∃ j : Nat, j ≤ n ∧ i = .int .i64 j ∧ Hid (pagesQ ps = pagesQ (ps.drop j)) ∧ Below w.heap.size w wr ∧ wr.ownsRow w.heap.size 252 10 v (spotsOf 0 (ps.take j)).length (flat spE (spotsOf 0 (ps.take j)))) (fun i _ _ => n - (intOf i).toNat)
  case atStart => exact ⟨0, Nat.zero_le _, rfl, rfl, Below.refl _ _, ownsRow_nil _ _ _ _⟩
  case round =>
    obtain ⟨j, hj, rfl, hq, g, ho⟩ := hrel
    by_cases hlt : j < n
    · obtain ⟨zs, hzs⟩ := at_lt' (rs := ps) (i := j) (by rw [HN.out]; exact hlt)
      obtain ⟨b, off, x, cx, rfl, e0, hcx, hx⟩ := (HR.out.below g (Nat.le_refl _)).page hzs
      have hjn : (j : Int) < (n : Int) := by omega
      obtain ⟨hz1, hz2⟩ := HP.out zs (List.mem_of_getElem? hzs)
      have HT : Hid (spotsOf 0 (ps.take (j + 1)) = spotsOf 0 (ps.take j) ++ pageL (j : Int) zs) := by
        show _ = _
        rw [take_snoc hzs, spotsOf_snoc, List.length_take, HN.out, Nat.min_eq_left (by omega), Nat.zero_add]
      have hlen : (spotsOf 0 (ps.take j)).length ≤ 200 := by
        have := spotsOf_len (ps.take j) 0 (fun z hz => HP.out z (List.mem_of_mem_take hz))
        rw [List.length_take] at this
        omega
      have hq1 : Hid (pagesQ ps = if pageC zs = 0 then pagesQ (ps.drop (j + 1)) else pageC zs) := by
        show _ = _
        rw [hq.out, drop_cons hzs]; rfl
      have hpl := pageL_len (j : Int) hz2
      clear hq hzs
      obtain ⟨xs, hxs⟩ : ∃ xs, xs = spotsOf 0 (ps.take j) := ⟨_, rfl⟩
      rw [← hxs] at ho hlen HT
      clear hxs
      go_wp2_with fail
      refine (cellsOf_any (j : Int) x zs zs.length cx _ rfl hz1 hcx hx hz2).mono ?_
      rintro e w2 ⟨v2, rfl, g2, o2⟩
      have ho := ownsRow_below ho g2
      have g3 := g.trans (g2.mono g.size)
      have hgs := g.size
      obtain ⟨ys, hys⟩ : ∃ ys, ys = pageL (j : Int) zs := ⟨_, rfl⟩
      rw [← hys] at o2 HT hpl
      clear hys g2 hx e0 hcx
      obtain ⟨a2, c2, rfl, hc2, s2, _⟩ := SlIn.ofRow spE_len o2
      have r2 := s2.reads
      clear s2 o2
      obtain ⟨f, hf⟩ : ∃ f, f = pageC zs := ⟨_, rfl⟩
      have hq2 : Hid (pagesQ ps = if f = 0 then pagesQ (ps.drop (j + 1)) else f) := by show _ = _; rw [hf]; exact hq1.out
      rw [← hf]
      clear hf hq1 g
      by_cases hf0 : f = 0
      · subst hf0
        go_wp2_with (at_builtin; refine wpList_append_sl elP _ rfl _ _ rfl w.heap.size _ xs ys a2 ys.length c2 rfl rfl rfl ho r2 (by omega) g3.size ?_)
        intro v' w' ho' hg' _
        have g4 : Below w.heap.size w w' := Below.grown g3 hg' g3.size (fun k hk => (ho.lt k hk).1)
        have ho2 : w'.ownsRow w.heap.size 252 10 v' (spotsOf 0 (ps.take (j + 1))).length (flat spE (spotsOf 0 (ps.take (j + 1)))) := by rw [HT.out, List.length_append]; exact ho'
        clear ho ho' hg' r2
        go_wp2_with fail
        go_roundw
        case rel => exact ⟨j + 1, by omega, by go_num, hq2.out, g4, ho2⟩
        case measure => simp [intOf]; omega
      · have HQ2 : Hid (allQ ps = f) := by show _ = _; rw [HQ.out, hq2.out, if_neg hf0]
        have HL : Hid (allL ps = []) := by show _ = _; unfold allL; rw [if_neg (by rw [HQ2.out]; exact hf0)]
        have df : (f != 0) = true := by simpa using hf0
        go_wp2_with fail
        go_ret2
        exact ⟨.slice none 0 0, by rw [HQ2.out]; rfl, g3, by rw [HL.out]; exact ownsRow_nil _ _ _ _⟩
    · have e : j = n := by omega
      subst e
      have HQ2 : Hid (allQ ps = 0) := by
        show _ = _
        rw [HQ.out, hq.out, List.drop_of_length_le (by rw [HN.out]; exact Nat.le_refl _)]; rfl
      have HL : Hid (allL ps = spotsOf 0 (ps.take j)) := by
        show _ = _
        unfold allL; rw [if_pos HQ2.out, List.take_of_length_le (by rw [HN.out]; exact Nat.le_refl _)]
      clear hq
      go_wp2_with fail
      go_ret2
      exact ⟨_, by rw [HQ2.out]; rfl, g, by rw [HL.out]; exact ho⟩

end Go.Proofs.Yteebbaleejbodaa
