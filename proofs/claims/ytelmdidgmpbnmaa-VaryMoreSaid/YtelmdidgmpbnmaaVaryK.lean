/- Layer 8: what the laws look at first: one small struct. -/
import Derived.Test.YtelmdidgmpbnmaaVaryJ
namespace Go.Proofs.Ytelmdidgmpbnmaa
open Go.RowKit Go.Deep Tr Mp
namespace Vy
def nmS : ByteArray := ⟨#[83]⟩
def dfS : Df := ⟨nmS, 2, [], [.mk 7 ⟨#[]⟩ true 1 [] [.mk 7 ⟨#[]⟩ false 2 [] [.mk 1 ⟨#[]⟩ false 0 [] []]]]⟩
theorem it0 : it [dfS] 0 nmS = some [0, 0] := by
  simp [it, start, told, upd, dfS, slots, lifesP, nmS]
  decide
theorem said_S {W : Ws} : said dfS W = [1, 3] := by
  simp [said, dfS, look, lookL, lifeP, orAt, slots, lifesP, thr]
  decide
theorem it1 (i : Nat) : it [dfS] (i + 1) nmS = some [1, 3] := by
  show once [dfS] (it [dfS] i) nmS = _
  simp [once, told, upd, said_S]
  rfl
theorem held_S {W : Ws} (h : Held [dfS] W) : W nmS = some [1, 3] := by
  obtain ⟨i, rfl, hi⟩ := h
  cases i with
  | zero =>
    have := it1 0
    rw [hi, it0] at this
    cases this
  | succ i => exact it1 i
theorem one_list {α : Type} {w : World} {sz b : Nat} {t : TypeId} {P : α → List Value → Prop} {x : α} {cs : List Value} (h : Is w b t cs.toArray) (hp : P x cs) (hl : cs.length = sz) (h1 : ∀ u ∈ cs, u.oneCell' = true) : ListAt w sz P (some ⟨b, 0, none⟩) [x] := by
  refine ⟨cs, ⟨by simp [hl], by unfold maxLen; simp⟩, ⟨fun _ => ⟨b, 0, rfl, h.lt, fun i u hu => ?_⟩, h1⟩, fun i hi => ?_⟩
  · rw [Nat.zero_add, h.at_]
    simpa using hu
  · have : i = 0 := by simp at hi; omega
    subst this
    simp only [Nat.zero_mul, List.drop_zero, List.getElem_cons_zero]
    rw [List.take_of_length_le (by omega)]
    exact hp
theorem is_made {w : World} {B : Nat} (h : w.heap.size = B) (t : TypeId) (cs : Array Value) : Is (w.alloc (.cells cs t)) B t cs := by rw [← h]; exact Is.made w t cs
theorem small_mem (w : World) (B : Nat) (hB : w.heap.size = B) : ListAt (((((w.alloc (.cells #[.int .i64 1, .string ⟨#[]⟩, .bool false, .int .i64 0, .slice none 0 0, .slice none 0 0] 34)).alloc (.cells #[.int .i64 7, .string ⟨#[]⟩, .bool false, .int .i64 2, .slice none 0 0, .slice (some ⟨B, 0, none⟩) 1 1] 34)).alloc (.cells #[.int .i64 7, .string ⟨#[]⟩, .bool true, .int .i64 1, .slice none 0 0, .slice (some ⟨B + 1, 0, none⟩) 1 1] 34)).alloc (.cells #[.int .i64 7, .string ⟨#[]⟩, .bool true, .int .i64 1, .slice none 0 0, .slice (some ⟨B + 1, 0, none⟩) 1 1] 34)).alloc (.cells #[.string ⟨#[83]⟩, .int .i64 2, .slice none 0 0, .slice (some ⟨B + 1 + 1 + 1, 0, none⟩) 1 1] 39)) 4 (DfAt (((((w.alloc (.cells #[.int .i64 1, .string ⟨#[]⟩, .bool false, .int .i64 0, .slice none 0 0, .slice none 0 0] 34)).alloc (.cells #[.int .i64 7, .string ⟨#[]⟩, .bool false, .int .i64 2, .slice none 0 0, .slice (some ⟨B, 0, none⟩) 1 1] 34)).alloc (.cells #[.int .i64 7, .string ⟨#[]⟩, .bool true, .int .i64 1, .slice none 0 0, .slice (some ⟨B + 1, 0, none⟩) 1 1] 34)).alloc (.cells #[.int .i64 7, .string ⟨#[]⟩, .bool true, .int .i64 1, .slice none 0 0, .slice (some ⟨B + 1, 0, none⟩) 1 1] 34)).alloc (.cells #[.string ⟨#[83]⟩, .int .i64 2, .slice none 0 0, .slice (some ⟨B + 1 + 1 + 1, 0, none⟩) 1 1] 39)) 3) (some ⟨B + 1 + 1 + 1 + 1, 0, none⟩) [dfS] ∧ Below w.heap.size w (((((w.alloc (.cells #[.int .i64 1, .string ⟨#[]⟩, .bool false, .int .i64 0, .slice none 0 0, .slice none 0 0] 34)).alloc (.cells #[.int .i64 7, .string ⟨#[]⟩, .bool false, .int .i64 2, .slice none 0 0, .slice (some ⟨B, 0, none⟩) 1 1] 34)).alloc (.cells #[.int .i64 7, .string ⟨#[]⟩, .bool true, .int .i64 1, .slice none 0 0, .slice (some ⟨B + 1, 0, none⟩) 1 1] 34)).alloc (.cells #[.int .i64 7, .string ⟨#[]⟩, .bool true, .int .i64 1, .slice none 0 0, .slice (some ⟨B + 1, 0, none⟩) 1 1] 34)).alloc (.cells #[.string ⟨#[83]⟩, .int .i64 2, .slice none 0 0, .slice (some ⟨B + 1 + 1 + 1, 0, none⟩) 1 1] 39)) := by
  obtain ⟨A1, h1⟩ : ∃ x, w.alloc (.cells #[.int .i64 1, .string ⟨#[]⟩, .bool false, .int .i64 0, .slice none 0 0, .slice none 0 0] 34) = x := ⟨_, rfl⟩
  have i1 := is_made hB 34 #[.int .i64 1, .string ⟨#[]⟩, .bool false, .int .i64 0, .slice none 0 0, .slice none 0 0]
  have b1 : Below w.heap.size w A1 := by rw [← h1]; exact (Below.refl _ _).alloc (Nat.le_refl _) _
  have s1 : A1.heap.size = B + 1 := by rw [← h1]; simp [hB]
  rw [h1] at i1 ⊢
  obtain ⟨A2, h2⟩ : ∃ x, A1.alloc (.cells #[.int .i64 7, .string ⟨#[]⟩, .bool false, .int .i64 2, .slice none 0 0, .slice (some ⟨B, 0, none⟩) 1 1] 34) = x := ⟨_, rfl⟩
  have i2 := is_made s1 34 #[.int .i64 7, .string ⟨#[]⟩, .bool false, .int .i64 2, .slice none 0 0, .slice (some ⟨B, 0, none⟩) 1 1]
  have b2 : Below w.heap.size w A2 := by rw [← h2]; exact b1.alloc (by omega) _
  have c2 : Below A1.heap.size A1 A2 := by rw [← h2]; exact (Below.refl _ _).alloc (Nat.le_refl _) _
  have s2 : A2.heap.size = B + 1 + 1 := by rw [← h2]; simp [s1]
  rw [h2] at i2 ⊢
  obtain ⟨A3, h3⟩ : ∃ x, A2.alloc (.cells #[.int .i64 7, .string ⟨#[]⟩, .bool true, .int .i64 1, .slice none 0 0, .slice (some ⟨B + 1, 0, none⟩) 1 1] 34) = x := ⟨_, rfl⟩
  have b3 : Below w.heap.size w A3 := by rw [← h3]; exact b2.alloc (by omega) _
  have c3 : Below A2.heap.size A2 A3 := by rw [← h3]; exact (Below.refl _ _).alloc (Nat.le_refl _) _
  have s3 : A3.heap.size = B + 1 + 1 + 1 := by rw [← h3]; simp [s2]
  rw [h3]
  obtain ⟨A4, h4⟩ : ∃ x, A3.alloc (.cells #[.int .i64 7, .string ⟨#[]⟩, .bool true, .int .i64 1, .slice none 0 0, .slice (some ⟨B + 1, 0, none⟩) 1 1] 34) = x := ⟨_, rfl⟩
  have i4 := is_made s3 34 #[.int .i64 7, .string ⟨#[]⟩, .bool true, .int .i64 1, .slice none 0 0, .slice (some ⟨B + 1, 0, none⟩) 1 1]
  have b4 : Below w.heap.size w A4 := by rw [← h4]; exact b3.alloc (by omega) _
  have c4 : Below A3.heap.size A3 A4 := by rw [← h4]; exact (Below.refl _ _).alloc (Nat.le_refl _) _
  have s4 : A4.heap.size = B + 1 + 1 + 1 + 1 := by rw [← h4]; simp [s3]
  rw [h4] at i4 ⊢
  obtain ⟨A5, h5⟩ : ∃ x, A4.alloc (.cells #[.string ⟨#[83]⟩, .int .i64 2, .slice none 0 0, .slice (some ⟨B + 1 + 1 + 1, 0, none⟩) 1 1] 39) = x := ⟨_, rfl⟩
  have i5 := is_made s4 39 #[.string ⟨#[83]⟩, .int .i64 2, .slice none 0 0, .slice (some ⟨B + 1 + 1 + 1, 0, none⟩) 1 1]
  have b5 : Below w.heap.size w A5 := by rw [← h5]; exact b4.alloc (by omega) _
  have c5 : Below A4.heap.size A4 A5 := by rw [← h5]; exact (Below.refl _ _).alloc (Nat.le_refl _) _
  rw [h5] at i5 ⊢
  have d1 : Is A5 B 34 #[.int .i64 1, .string ⟨#[]⟩, .bool false, .int .i64 0, .slice none 0 0, .slice none 0 0] := ((((i1.below c2 i1.lt).below c3 (by omega)).below c4 (by omega)).below c5 (by omega))
  have d2 : Is A5 (B + 1) 34 #[.int .i64 7, .string ⟨#[]⟩, .bool false, .int .i64 2, .slice none 0 0, .slice (some ⟨B, 0, none⟩) 1 1] := (((i2.below c3 i2.lt).below c4 (by omega)).below c5 (by omega))
  have d4 : Is A5 (B + 1 + 1 + 1) 34 #[.int .i64 7, .string ⟨#[]⟩, .bool true, .int .i64 1, .slice none 0 0, .slice (some ⟨B + 1, 0, none⟩) 1 1] := i4.below c5 i4.lt
  have e0 : (⟨#[]⟩ : ByteArray).size ≤ maxLen := Nat.zero_le _
  have t1 : TyAt A5 1 (.mk 1 ⟨#[]⟩ false 0 [] []) [.int .i64 1, .string ⟨#[]⟩, .bool false, .int .i64 0, .slice none 0 0, .slice none 0 0] :=
    ⟨none, 0, none, 0, rfl, ⟨e0, ListAt.none _ _ _ _⟩, ListAt.none _ _ _ _⟩
  have t2 : TyAt A5 2 (.mk 7 ⟨#[]⟩ false 2 [] [.mk 1 ⟨#[]⟩ false 0 [] []]) [.int .i64 7, .string ⟨#[]⟩, .bool false, .int .i64 2, .slice none 0 0, .slice (some ⟨B, 0, none⟩) 1 1] :=
    ⟨none, 0, some ⟨B, 0, none⟩, 1, rfl, ⟨e0, ListAt.none _ _ _ _⟩, one_list d1 t1 rfl t1.one.2⟩
  have t3 : TyAt A5 3 (.mk 7 ⟨#[]⟩ true 1 [] [.mk 7 ⟨#[]⟩ false 2 [] [.mk 1 ⟨#[]⟩ false 0 [] []]]) [.int .i64 7, .string ⟨#[]⟩, .bool true, .int .i64 1, .slice none 0 0, .slice (some ⟨B + 1, 0, none⟩) 1 1] :=
    ⟨none, 0, some ⟨B + 1, 0, none⟩, 1, rfl, ⟨e0, ListAt.none _ _ _ _⟩, one_list d2 t2 rfl t2.one.2⟩
  have td : DfAt A5 3 dfS [.string ⟨#[83]⟩, .int .i64 2, .slice none 0 0, .slice (some ⟨B + 1 + 1 + 1, 0, none⟩) 1 1] :=
    ⟨none, 0, some ⟨B + 1 + 1 + 1, 0, none⟩, 1, rfl, ⟨by show (1 : Nat) ≤ maxLen; unfold maxLen; omega, ListAt.none _ _ _ _⟩, one_list d4 t3 rfl t3.one.2⟩
  exact ⟨one_list i5 td rfl td.one.2, b5⟩
set_option maxHeartbeats 4000000 in
set_option maxRecDepth 100000 in
theorem varied_any (w : World) : Calls Try.prog 6 #[] w fun e w' => e = .returned (.bool true) ∧ Below w.heap.size w w' := by
  obtain ⟨B, hB⟩ : ∃ x, w.heap.size = x := ⟨_, rfl⟩
  obtain ⟨hl, hb⟩ := small_mem w B hB
  have HF := Lib.hid (find_any (ca := 1) hl (by decide) (by intro d hd; simp at hd; subst hd; decide))
  have HB := Lib.hid hb
  clear hl hb
  go_enter Try.func6, Try.ntmps6
  go_wp2_with fail
  refine HF.out.mono ?_
  rintro e w2 ⟨b, W, rfl, h1, h2, h3⟩
  obtain ⟨u, hrun, hu⟩ := h1.look (s := nmS) (by show (1 : Nat) ≤ maxLen; unfold maxLen; omega)
  rw [held_S h2] at hu
  have hrun : (Instr.lookup 28 (.map (some b)) (.string ⟨#[83]⟩) false).run Try.prog w2 = .ok u w2 := hrun
  have B2 := Lib.hid (HB.out.trans (h3.mono HB.out.size))
  have bb : Below w2.heap.size w2 (w2.alloc (.cells #[.int .i64 1, .int .i64 3] 3)) := (Below.refl _ _).alloc (Nat.le_refl _) _
  have hr : RowI (w2.alloc (.cells #[.int .i64 1, .int .i64 3] 3)) (.slice (some ⟨w2.heap.size, 0, none⟩) 2 2) [1, 3] :=
    ⟨some ⟨w2.heap.size, 0, none⟩, 2, rfl, rowC_listAt (a := [1, 3]) (Is.made w2 3 (rowC [1, 3])) (by show (2 : Nat) ≤ maxLen; unfold maxLen; omega)⟩
  have HI := Lib.hid (ints_eq (hu.below bb) hr)
  have B3 := Lib.hid (B2.out.trans (bb.mono B2.out.size))
  clear hu hr bb h1 h2 h3
  go_wp2_with fail
  refine HI.out.mono ?_
  rintro e w3 ⟨rfl, q, rfl⟩
  have B4 := Lib.hid (B3.out.trans ((below_drewN _ q).mono B3.out.size))
  have hd : decide (ints ((some [1, 3]).getD []) = [1, 3]) = true := by decide
  rw [hd]
  clear hd
  go_wp2
  go_ret
  exact ⟨rfl, B4.out⟩
end Vy
end Go.Proofs.Ytelmdidgmpbnmaa
