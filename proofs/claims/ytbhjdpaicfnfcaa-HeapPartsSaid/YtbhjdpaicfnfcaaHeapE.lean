/- Layer 13: DeleteFunc. -/
import Derived.Lib.SliceRun
import Derived.Test.YtbhjdpaicfnfcaaHeapD
namespace Go.Proofs.Ytbhjdpaicfnfcaa
open Go.RowKit Go.Deep Tr
namespace Hp
theorem run_clear_any {P : Program} (w : World) (t e ty : TypeId) (z : Value) (ht : P.underlying t = some (.slice e)) (hv : ∀ w, (zeroValue e).run P w = .ok z w) (b o n c : Nat) (hn : 0 < n)
    (hc : ∀ j, j < (Builtin.zeroCells z.cells n).toList.length → (w.cell? ⟨b, o + j, none⟩).isSome = true) (hf : ∀ j, j < (Builtin.zeroCells z.cells n).toList.length → w.frozen? ⟨b, o + j, none⟩ = false) (h1 : ∀ v ∈ (Builtin.zeroCells z.cells n).toList, v.oneCell' = true) :
    (Builtin.clear_ #[t] ty #[.slice (some ⟨b, o, none⟩) n c]).run P w = .ok (.tuple #[]) (w.setCells b o (Builtin.zeroCells z.cells n).toList) := by
  have hst := run_storeCells_cells (P := P) b o (Builtin.zeroCells z.cells n).toList 0 w (by simpa only [Nat.add_zero] using hc) (by simpa only [Nat.add_zero] using hf) h1
  simp only [Nat.add_zero] at hst
  obtain ⟨m, rfl⟩ : ∃ m, n = m + 1 := ⟨n - 1, by omega⟩
  simp [Builtin.clear_, run_underlying ht, hv, hst]
def zeroHd : Value := .agg #[.int .i64 0, .slice none 0 0, .bool false]
theorem zero_hd (w : World) : (zeroValue 96).run Try.prog w = .ok zeroHd w := by kernel_rfl
theorem zeroHd_len (n : Nat) : (Builtin.zeroCells zeroHd.cells n).toList.length = n * 3 := by
  simp [Builtin.zeroCells, zeroHd, Value.cells]
theorem zeroHd_one (n : Nat) : ∀ v ∈ (Builtin.zeroCells zeroHd.cells n).toList, v.oneCell' = true := by
  intro v hv
  simp [Builtin.zeroCells, zeroHd, Value.cells] at hv
  obtain ⟨a, _, rfl⟩ := hv
  have : a % 3 = 0 ∨ a % 3 = 1 ∨ a % 3 = 2 := by omega
  rcases this with h | h | h <;> rw [h] <;> rfl
theorem is_setCells {t : TypeId} {b : Nat} : ∀ (vs : List Value) (o : Nat) (w : World) (cs : Array Value), Is w b t cs → ∃ cs', Is (w.setCells b o vs) b t cs' ∧ cs'.size = cs.size ∧ (∀ i, i < o → cs'[i]? = cs[i]?) ∧ Mod (fun k => k = b) w (w.setCells b o vs)
  | [], _, w, cs, h => ⟨cs, h, rfl, fun _ _ => rfl, .refl _ _⟩
  | v :: vs, o, w, cs, h => by
    obtain ⟨cs', h1, h2, h3, h4⟩ := is_setCells vs (o + 1) (w.setCell ⟨b, o, none⟩ v) _ (h.put o v)
    refine ⟨cs', h1, by rw [h2]; simp, fun i hi => ?_, ((Mod.refl (fun k => k = b) w).put (fun _ => rfl) o v).trans h4⟩
    rw [h3 i (by omega), Array.getElem?_setIfInBounds_ne (by omega)]
/-- Rights that lie one behind the other among a block's cells. -/
def RowH (w : World) (cur : Array Value) (o : Nat) (L : List Hd) : Prop := ∀ i (h : i < L.length), ∃ cs, HdAt w L[i] cs ∧ ∀ j u, cs[j]? = some u → cur[o + i * 3 + j]? = some u
theorem RowH.mod {S : Nat → Prop} {w w' : World} {cur : Array Value} {o : Nat} {L : List Hd} (h : RowH w cur o L) (hm : Mod S w w') (hS : ∀ k, S k → ¬IntB w k) : RowH w' cur o L := fun i hi => by
  obtain ⟨cs, h1, h2⟩ := h i hi
  exact ⟨cs, h1.mod hm hS, h2⟩
theorem RowH.below {w w' : World} {cur : Array Value} {o : Nat} {L : List Hd} (h : RowH w cur o L) (hb : Below w.heap.size w w') : RowH w' cur o L := fun i hi => by
  obtain ⟨cs, h1, h2⟩ := h i hi
  exact ⟨cs, h1.below hb, h2⟩
theorem RowH.cells {w : World} {cur cur' : Array Value} {o : Nat} {L : List Hd} (h : RowH w cur o L) (hc : ∀ i, o ≤ i → i < o + L.length * 3 → cur'[i]? = cur[i]?) : RowH w cur' o L := fun i hi => by
  obtain ⟨cs, h1, h2⟩ := h i hi
  obtain ⟨A, c, rfl, _⟩ := id h1
  refine ⟨_, h1, fun j u hj => ?_⟩
  have hj3 : j < 3 := by have := (List.getElem?_eq_some_iff.1 hj).1; simpa using this
  rw [hc _ (by omega) (by have : (i + 1) * 3 ≤ L.length * 3 := Nat.mul_le_mul_right _ hi; omega)]
  exact h2 j u hj
def put3 (cur : Array Value) (p : Nat) (a b c : Value) : Array Value := ((cur.setIfInBounds p a).setIfInBounds (p + 1) b).setIfInBounds (p + 2) c
theorem put3_size (cur : Array Value) (p : Nat) (a b c : Value) : (put3 cur p a b c).size = cur.size := by simp [put3]
theorem put3_far {cur : Array Value} {p i : Nat} {a b c : Value} (h : i < p ∨ p + 3 ≤ i) : (put3 cur p a b c)[i]? = cur[i]? := by
  unfold put3
  rw [Array.getElem?_setIfInBounds_ne (by omega), Array.getElem?_setIfInBounds_ne (by omega), Array.getElem?_setIfInBounds_ne (by omega)]
theorem put3_in {cur : Array Value} {p j : Nat} {a b c u : Value} (h : p + 3 ≤ cur.size) (hj : [a, b, c][j]? = some u) : (put3 cur p a b c)[p + j]? = some u := by
  unfold put3
  match j, hj with
  | 0, hj =>
    simp at hj
    subst hj
    rw [Array.getElem?_setIfInBounds_ne (by omega), Array.getElem?_setIfInBounds_ne (by omega), Nat.add_zero, Array.getElem?_setIfInBounds_self_of_lt (by omega)]
  | 1, hj =>
    simp at hj
    subst hj
    rw [Array.getElem?_setIfInBounds_ne (by omega), Array.getElem?_setIfInBounds_self_of_lt (by simp; omega)]
  | 2, hj =>
    simp at hj
    subst hj
    rw [Array.getElem?_setIfInBounds_self_of_lt (by simp; omega)]
  | j + 3, hj => simp at hj
theorem RowH.snoc {w : World} {cur : Array Value} {o : Nat} {L : List Hd} (h : RowH w cur o L) {r : Hd} {a b c : Value} (hr : HdAt w r [a, b, c]) (hs : o + L.length * 3 + 3 ≤ cur.size) : RowH w (put3 cur (o + L.length * 3) a b c) o (L ++ [r]) := fun i hi => by
  rw [List.length_append, List.length_singleton] at hi
  by_cases hiL : i < L.length
  · have h1 := h.cells (cur' := put3 cur (o + L.length * 3) a b c) (fun i _ h2 => put3_far (.inl h2))
    obtain ⟨cs, h2, h3⟩ := h1 i hiL
    exact ⟨cs, by rw [List.getElem_append_left hiL]; exact h2, h3⟩
  · have e : i = L.length := by omega
    subst e
    exact ⟨[a, b, c], by rw [List.getElem_append_right (Nat.le_refl _)]; simpa using hr, fun j u hj => put3_in hs hj⟩
theorem HdAt.three {w : World} {r : Hd} {cs : List Value} (h : HdAt w r cs) : cs.length = 3 ∧ ∀ u ∈ cs, u.oneCell' = true := by
  obtain ⟨A, c, rfl, _⟩ := h
  exact ⟨rfl, fun u hu => by simp at hu; rcases hu with rfl | rfl | rfl <;> rfl⟩
theorem RowH.list {w : World} {g o : Nat} {cur : Array Value} {L : List Hd} (hI : Is w g 96 cur) (h : RowH w cur o L) (hl : L.length ≤ 1000) : ListAt w 3 (HdAt w) (some ⟨g, o, none⟩) L := by
  have hx : ∀ q, q < L.length * 3 → ∃ u, cur[o + q]? = some u ∧ u.oneCell' = true := by
    intro q hq
    obtain ⟨cs, h1, h2⟩ := h (q / 3) (by omega)
    have h3 := h1.three
    have hj : q % 3 < cs.length := by rw [h3.1]; omega
    refine ⟨cs[q % 3], ?_, h3.2 _ (List.getElem_mem hj)⟩
    have := h2 (q % 3) _ (List.getElem?_eq_getElem hj)
    rwa [show o + q / 3 * 3 + q % 3 = o + q by omega] at this
  have hlen : ((cur.toList.drop o).take (L.length * 3)).length = L.length * 3 := by
    rw [List.length_take, List.length_drop, Array.length_toList (xs := cur)]
    rcases Nat.eq_zero_or_pos (L.length * 3) with h0 | h0
    · omega
    · obtain ⟨u, hu, _⟩ := hx (L.length * 3 - 1) (by omega)
      have := (Array.getElem?_eq_some_iff.1 hu).1
      omega
  have hat : ∀ q, q < L.length * 3 → ((cur.toList.drop o).take (L.length * 3))[q]? = cur[o + q]? := by
    intro q hq
    rw [List.getElem?_take, if_pos hq, List.getElem?_drop, Array.getElem?_toList]
  refine ⟨(cur.toList.drop o).take (L.length * 3), ⟨hlen, by unfold maxLen; omega⟩, ⟨fun _ => ⟨g, o, rfl, hI.lt, fun i u hu => ?_⟩, fun u hu => ?_⟩, fun i hi => ?_⟩
  · have hq : i < L.length * 3 := by have := (List.getElem?_eq_some_iff.1 hu).1; omega
    rw [hat i hq] at hu
    rw [hI.at_, hu]
  · obtain ⟨q, hq, rfl⟩ := List.getElem_of_mem hu
    obtain ⟨u, hu, h1⟩ := hx q (by omega)
    have := hat q (by omega)
    rw [List.getElem?_eq_getElem hq, hu] at this
    injection this with this
    rw [this]
    exact h1
  · obtain ⟨cs, h1, h2⟩ := h i hi
    have h3 := h1.three
    have e : (((cur.toList.drop o).take (L.length * 3)).drop (i * 3)).take 3 = cs := by
      apply List.ext_getElem?
      intro j
      rw [List.getElem?_take]
      have hle : i * 3 + 3 ≤ L.length * 3 := by omega
      split
      · rename_i hj
        rw [List.getElem?_drop, hat _ (by omega), List.getElem?_eq_getElem (by rw [h3.1]; exact hj)]
        have := h2 j _ (List.getElem?_eq_getElem (by rw [h3.1]; exact hj))
        rwa [show o + i * 3 + j = o + (i * 3 + j) by omega] at this
      · rename_i hj
        rw [List.getElem?_eq_none (by rw [h3.1]; omega)]
    rw [e]
    exact h1
set_option maxHeartbeats 8000000
set_option maxRecDepth 100000
/-- While rights are struck: the first ones are those that stay, the last ones are as they were. -/
structure Strk (w w' : World) (g o : Nat) (cur : Array Value) (wt : Bool) (pa : List Int) (S : List Hd) (j i : Nat) : Prop where
  cells : ∃ cur', Is w' g 96 cur' ∧ cur'.size = cur.size ∧ (∀ q, q < o → cur'[q]? = cur[q]?) ∧ RowH w' cur' o ((S.take j).filter fun r => !dl wt pa r) ∧ (∀ q, o + j * 3 ≤ q → cur'[q]? = cur[q]?)
  mod : Mod (fun k => k = g) w w'
  len : i = ((S.take j).filter fun r => !dl wt pa r).length
  lt : i < j
section
variable {w wr w2 : World} {g o : Nat} {cur : Array Value} {wt : Bool} {pa : List Int} {S : List Hd} {j i : Nat}
theorem Strk.below (h : Strk w wr g o cur wt pa S j i) (hb : Below wr.heap.size wr w2) : Strk w w2 g o cur wt pa S j i := by
  obtain ⟨cur', h1, h2, h3, h4, h5⟩ := h.cells
  exact ⟨⟨cur', h1.below hb h1.lt, h2, h3, h4.below hb, h5⟩, h.mod.trans (.of hb), h.len, h.lt⟩
theorem Strk.skip (h : Strk w wr g o cur wt pa S j i) (hj : j < S.length) (hd : dl wt pa S[j] = true) : Strk w wr g o cur wt pa S (j + 1) i := by
  have e : ((S.take (j + 1)).filter fun r => !dl wt pa r) = (S.take j).filter fun r => !dl wt pa r := by
    rw [List.take_succ_eq_append_getElem hj, List.filter_append, List.filter_cons_of_neg (by rw [hd]; decide), List.filter_nil, List.append_nil]
  obtain ⟨cur', h1, h2, h3, h4, h5⟩ := h.cells
  exact ⟨⟨cur', h1, h2, h3, by rw [e]; exact h4, fun q hq => h5 q (by omega)⟩, h.mod, by rw [e]; exact h.len, Nat.lt_succ_of_lt h.lt⟩
theorem Strk.room (h : Strk w wr g o cur wt pa S j i) (hj : j < S.length) (hs : o + S.length * 3 ≤ cur.size) : ∃ y0 y1 y2, wr.cell? ⟨g, o + i * 3, none⟩ = some y0 ∧ wr.cell? ⟨g, o + i * 3 + 1, none⟩ = some y1 ∧ wr.cell? ⟨g, o + i * 3 + 2, none⟩ = some y2 := by
  obtain ⟨cur', h1, h2, _⟩ := h.cells
  have := h.lt
  exact ⟨_, _, _, (h1.at_ _).trans (Array.getElem?_eq_getElem (by omega)), (h1.at_ _).trans (Array.getElem?_eq_getElem (by omega)), (h1.at_ _).trans (Array.getElem?_eq_getElem (by omega))⟩
theorem Strk.keep (h : Strk w wr g o cur wt pa S j i) (hj : j < S.length) (hs : o + S.length * 3 ≤ cur.size) (hd : dl wt pa S[j] = false) {a b c : Value} (hr : HdAt wr S[j] [a, b, c]) (hgw : ¬IntB wr g) :
    Strk w (((wr.setCell ⟨g, o + i * 3, none⟩ a).setCell ⟨g, o + i * 3 + 1, none⟩ b).setCell ⟨g, o + i * 3 + 2, none⟩ c) g o cur wt pa S (j + 1) (i + 1) := by
  have e : ((S.take (j + 1)).filter fun r => !dl wt pa r) = ((S.take j).filter fun r => !dl wt pa r) ++ [S[j]] := by
    rw [List.take_succ_eq_append_getElem hj, List.filter_append, List.filter_cons_of_pos (by rw [hd]; rfl), List.filter_nil]
  obtain ⟨cur', h1, h2, h3, h4, h5⟩ := h.cells
  have hlt := h.lt
  have hl := h.len
  have hm : Mod (fun k => k = g) wr (((wr.setCell ⟨g, o + i * 3, none⟩ a).setCell ⟨g, o + i * 3 + 1, none⟩ b).setCell ⟨g, o + i * 3 + 2, none⟩ c) :=
    (((Mod.refl (fun k => k = g) wr).put (fun _ => rfl) _ _).put (fun _ => rfl) _ _).put (fun _ => rfl) _ _
  refine ⟨⟨put3 cur' (o + i * 3) a b c, ((h1.put _ a).put _ b).put _ c, by rw [put3_size, h2], fun q hq => by rw [put3_far (.inl (by omega)), h3 q hq], ?_, fun q hq => by rw [put3_far (.inr (by omega)), h5 q (by omega)]⟩, h.mod.trans hm, by rw [e, List.length_append, ← hl]; rfl, by omega⟩
  rw [e]
  have := (h4.snoc hr (by rw [← hl]; omega)).mod hm (fun k e => by subst e; exact hgw)
  rw [← hl] at this
  exact this
end
theorem delete_any {w : World} {wb pb : Nat} {wt : Bool} {pa : List Int} (hE : UseEnv w wb pb wt pa) {g o c : Nat} {cur : Array Value} {S : List Hd} (hI : Is w g 96 cur) (hR : RowH w cur o S) (hl : S.length ≤ 1000) (hsz : o + S.length * 3 ≤ cur.size) (hc : S.length ≤ c) :
    Calls Try.prog 65 #[.slice (some ⟨g, o, none⟩) S.length c, delF wb pb] w fun e w' => ∃ c' cur', e = .returned (.slice (some ⟨g, o, none⟩) (S.filter fun r => !dl wt pa r).length c') ∧
      Is w' g 96 cur' ∧ cur'.size = cur.size ∧ (∀ q, q < o → cur'[q]? = cur[q]?) ∧ RowH w' cur' o (S.filter fun r => !dl wt pa r) ∧ Mod (fun k => k = g) w w' := by
  have HX := Lib.hid (index_any hE (c := c) (hR.list hI hl) hl)
  have HE := Lib.hid hE
  have HI := Lib.hid hI
  have HR := Lib.hid hR
  have HSZ := Lib.hid hsz
  obtain ⟨n, hn⟩ : ∃ n, S.length = n := ⟨_, rfl⟩
  have HN := Lib.hid hn
  rw [hn] at hl HX hc hsz ⊢
  clear hE hI hR hn hsz
  unfold delF at HX ⊢
  go_enter Try.func65, Try.ntmps65
  go_wp2_with fail
  refine HX.out.mono ?_
  rintro e w1 ⟨x, rfl, hx, q1⟩
  rcases hx with ⟨rfl, hno⟩ | ⟨k, rfl, hk, hk1, hk2⟩
  · have hf : (S.filter fun r => !dl wt pa r) = S := by
      rw [List.filter_eq_self]
      intro r hr
      obtain ⟨i, hi, rfl⟩ := List.getElem_of_mem hr
      rw [hno i hi]; rfl
    have HQ := Lib.hid q1
    clear HX q1 hno
    go_wp2
    go_ret
    rw [hf, HN.out]
    exact ⟨c, cur, rfl, HI.out.below HQ.out HI.out.lt, rfl, fun _ _ => rfl, HR.out.below HQ.out, .of HQ.out⟩
  · have e0 : ((k : Int) == -1) = false := by rw [beq_eq_false_iff_ne]; omega
    have hkn : k < n := by rw [← HN.out]; exact hk
    have HS : Hid (Strk w w1 g o cur wt pa S (k + 1) k) := by
      have hf : ((S.take (k + 1)).filter fun r => !dl wt pa r) = S.take k := by
        rw [List.take_succ_eq_append_getElem hk, List.filter_append, List.filter_eq_self.2, List.filter_cons_of_neg (by rw [hk1]; decide), List.filter_nil, List.append_nil]
        intro r hr
        obtain ⟨i, hi, rfl⟩ := List.getElem_of_mem hr
        rw [List.length_take] at hi
        rw [List.getElem_take, hk2 i (by omega)]; rfl
      refine ⟨⟨cur, HI.out.below q1 HI.out.lt, rfl, fun _ _ => rfl, ?_, fun _ _ => rfl⟩, .of q1, ?_, by omega⟩
      · rw [hf]
        intro i hi
        rw [List.length_take] at hi
        obtain ⟨cs, h1, h2⟩ := HR.out.below q1 i (by omega)
        exact ⟨cs, by rw [List.getElem_take]; exact h1, h2⟩
      · rw [hf, List.length_take]; omega
    clear q1 hk1 hk2 HX hk
    go_wp2
    go_loopw [5, 6] (fun i j wr => ∃ a b : Nat, b ≤ n ∧ i = .int .i64 a ∧ j = .int .i64 b ∧ Hid (Strk w wr g o cur wt pa S b a)) (fun i j _ => n - (intOf j).toNat)
    case atStart => exact ⟨k, k + 1, by omega, rfl, by simp, HS⟩
    case round =>
      obtain ⟨a, b, hbn, rfl, rfl, HQ⟩ := hrel
      have hab := HQ.out.lt
      by_cases hlt : b < n
      · have hbS : b < S.length := by rw [HN.out]; exact hlt
        obtain ⟨cur', hI', hs', hlo', hrow', hhi'⟩ := HQ.out.cells
        obtain ⟨cs, hh, hcs⟩ := HR.out b hbS
        have hni : ∀ k, k = g → ¬IntB w k := fun k e => by subst e; exact not_int HI.out (by decide)
        have hh' := hh.mod HQ.out.mod hni
        obtain ⟨hd, hhd⟩ : ∃ x, S[b] = x := ⟨_, rfl⟩
        rw [hhd] at hh hh'
        obtain ⟨tag, path, uq⟩ := hd
        obtain ⟨A', c', rfl, _⟩ := id hh'
        obtain ⟨lp, hlp⟩ : ∃ x, path.length = x := ⟨_, rfl⟩
        have x0 := (hI'.at_ (o + b * 3 + 0)).trans ((hhi' _ (by omega)).trans (hcs 0 _ rfl))
        have x1 := (hI'.at_ (o + b * 3 + 1)).trans ((hhi' _ (by omega)).trans (hcs 1 _ rfl))
        have x2 := (hI'.at_ (o + b * 3 + 2)).trans ((hhi' _ (by omega)).trans (hcs 2 _ rfl))
        have hfz : ∀ i, wr.frozen? ⟨g, i, none⟩ = false := fun i => hI'.free i
        obtain ⟨oV, hoV⟩ : ∃ o', (Obj.cells #[.int .i64 tag, .slice A' path.length c', .bool uq] 96) = o' := ⟨_, rfl⟩
        have BV : Below wr.heap.size wr (wr.alloc oV) := (Below.refl _ wr).alloc (Nat.le_refl _) _
        have hEm : UseEnv (wr.alloc oV) wb pb wt pa := (HE.out.mod HQ.out.mod hni (fun e => by subst e; exact absurd rfl (is_ne HE.out.w1 HI.out (by decide))) (fun e => by subst e; obtain ⟨_, _, _, _, p1, _⟩ := HE.out.p1; exact absurd rfl (is_ne p1 HI.out (by decide)))).below BV
        have hU := use2_any hEm (hh'.below BV)
        have iV : Is (wr.alloc oV) wr.heap.size 96 #[.int .i64 tag, .slice A' path.length c', .bool uq] := by rw [← hoV]; exact Is.made wr _ _
        obtain ⟨bb, hbb⟩ : ∃ b, dl wt pa ⟨tag, path, uq⟩ = b := ⟨_, rfl⟩
        rw [hbb] at hU
        have HHH := Lib.hid hh'
        have HBV := Lib.hid BV
        have HDL : Hid (S[b] = ⟨tag, path, uq⟩ ∧ dl wt pa ⟨tag, path, uq⟩ = bb) := ⟨hhd, hbb⟩
        obtain ⟨V, hV⟩ : ∃ V, wr.alloc oV = V := ⟨_, rfl⟩
        rw [hV] at hU iV
        have HV : Hid (wr.alloc (.cells #[.int .i64 tag, .slice A' lp c', .bool uq] 96) = V) := by rw [← hlp, hoV]; exact hV
        rw [hV] at HBV
        simp only [Nat.add_zero] at x0
        simp only [hlp] at x1 hU iV
        have HU := Lib.hid hU
        have IV := Lib.hid iV
        have HLP := Lib.hid hlp
        have hoff : o + b * 3 + 2 < cur.size := by have := HSZ.out; rw [HN.out] at this; omega
        clear hI' hs' hlo' hrow' hhi' hh hh' hcs hhd hlp hoV BV hEm hU iV hbb hV
        go_wp2_with fail
        rw [HV.out]
        refine HU.out.mono ?_
        rintro e w2 ⟨rfl, q2⟩
        have J := IV.out.below q2 IV.out.lt
        have v0 := J.at_ 0
        have v1 := J.at_ 1
        have v2 := J.at_ 2
        simp at v0 v1 v2
        have HQ2 : Hid (Strk w w2 g o cur wt pa S b a) := HQ.out.below (HBV.out.trans (q2.mono HBV.out.size))
        have HH2 : Hid (HdAt w2 ⟨tag, path, uq⟩ [.int .i64 tag, .slice A' lp c', .bool uq]) := by
          have := (HHH.out.below HBV.out).below q2
          rw [HLP.out] at this
          exact this
        have hsz : o + S.length * 3 ≤ cur.size := HSZ.out
        obtain ⟨y0, y1, y2, r0, r1, r2⟩ := HQ2.out.room hbS hsz
        have hgf : ∀ i, w2.frozen? ⟨g, i, none⟩ = false := by
          obtain ⟨cur', h1, _⟩ := HQ2.out.cells
          exact fun i => h1.free i
        have hgi : ¬IntB w2 g := by
          obtain ⟨cur', h1, _⟩ := HQ2.out.cells
          exact not_int h1 (by decide)
        have han : a < n := by omega
        cases bb with
        | true =>
          have HQ3 : Hid (Strk w w2 g o cur wt pa S (b + 1) a) := HQ2.out.skip hbS (by rw [HDL.out.1]; exact HDL.out.2)
          clear HQ HQ2 HH2 hsz r0 r1 r2 hgf hgi v0 v1 v2 J q2 HU IV HHH HBV HDL hbS x0 x1 x2 hfz hoff
          go_wp2
          go_roundw
          case rel => exact ⟨a, b + 1, by omega, rfl, by go_num, HQ3⟩
          case measure => simp [intOf]; omega
        | false =>
          have HQ3 : Hid (Strk w (((w2.setCell ⟨g, o + a * 3, none⟩ (.int .i64 tag)).setCell ⟨g, o + a * 3 + 1, none⟩ (.slice A' lp c')).setCell ⟨g, o + a * 3 + 2, none⟩ (.bool uq)) g o cur wt pa S (b + 1) (a + 1)) :=
            HQ2.out.keep hbS hsz (by rw [HDL.out.1]; exact HDL.out.2) (by rw [HDL.out.1]; exact HH2.out) hgi
          clear HQ HQ2 HH2 hsz hgi J q2 HU IV HHH HBV HDL hbS x0 x1 x2 hfz hoff
          go_wp2
          go_roundw
          case rel => exact ⟨a + 1, b + 1, by omega, by go_num, by go_num, HQ3⟩
          case measure => simp [intOf]; omega
      · have hbe : b = n := by omega
        subst hbe
        have hS : S.take b = S := List.take_of_length_le (by rw [HN.out]; exact Nat.le_refl _)
        obtain ⟨cur', h1, h2, h3, h4, h5⟩ := HQ.out.cells
        have hl2 := HQ.out.len
        have hm2 := HQ.out.mod
        rw [hS] at h4 hl2
        have hsz : o + b * 3 ≤ cur.size := by have := HSZ.out; rwa [HN.out] at this
        obtain ⟨d, hd⟩ : ∃ d, b - a = d := ⟨_, rfl⟩
        obtain ⟨Z, hZ⟩ : ∃ Z, (Builtin.zeroCells zeroHd.cells d).toList = Z := ⟨_, rfl⟩
        have hZl : Z.length = d * 3 := by rw [← hZ]; exact zeroHd_len d
        have hcl : ∀ ty, (Builtin.clear_ #[54] ty #[.slice (some ⟨g, o + a * 3, none⟩) (b - a) (c - a)]).run Try.prog wr = .ok (.tuple #[]) (wr.setCells g (o + a * 3) Z) := fun ty => by
          rw [hd, ← hZ]
          refine run_clear_any wr _ _ ty zeroHd Try.underlying54 zero_hd g (o + a * 3) d (c - a) (by omega) (fun j hj => ?_) (fun j _ => h1.free _) (zeroHd_one d)
          rw [hZ, hZl] at hj
          rw [h1.at_, Array.getElem?_eq_getElem (by omega)]
          rfl
        obtain ⟨cur2, i1, i2, i3, i4⟩ := is_setCells Z (o + a * 3) wr cur' h1
        have HF : Hid (Is (wr.setCells g (o + a * 3) Z) g 96 cur2 ∧ cur2.size = cur.size ∧ (∀ q, q < o → cur2[q]? = cur[q]?) ∧ RowH (wr.setCells g (o + a * 3) Z) cur2 o (S.filter fun r => !dl wt pa r) ∧ Mod (fun k => k = g) w (wr.setCells g (o + a * 3) Z)) := by
          refine ⟨i1, by rw [i2, h2], fun q hq => by rw [i3 q (by omega), h3 q hq], ?_, hm2.trans i4⟩
          exact (h4.cells (cur' := cur2) (fun q _ h => i3 q (by rw [← hl2] at h; omega))).mod i4 (fun k e => by subst e; exact not_int h1 (by decide))
        have HLN := Lib.hid hl2
        clear HQ h1 h2 h3 h4 h5 hl2 hm2 hS i1 i2 i3 i4 hZ hZl hd
        go_wp2
        go_ret
        rw [← HLN.out]
        exact ⟨_, cur2, rfl, HF.out⟩
end Hp
end Go.Proofs.Ytbhjdpaicfnfcaa
