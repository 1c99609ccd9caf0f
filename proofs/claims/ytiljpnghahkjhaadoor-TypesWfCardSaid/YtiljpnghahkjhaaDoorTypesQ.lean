/- Layer 7: what all laws look at first. -/
import Derived.Test.YtiljpnghahkjhaaDoorTypesP
namespace Go.Proofs.YtiljpnghahkjhaaDoor
open Go.RowKit Go.Deep Tr
namespace Ts
@[go_sem] theorem eql_pair (w : World) : (Op.equalIn 10000 46 (.agg #[.int .i64 2, .int .i64 1]) (.agg #[.int .i64 2, .int .i64 1])).run Tryd.prog w = .ok true w := by kernel_rfl
set_option maxHeartbeats 4000000 in
set_option maxRecDepth 100000 in
theorem typed_any (w : World) : Calls Tryd.prog 8 #[] w fun e w' => e = .returned (.bool true) ∧ Below w.heap.size w w' := by
  obtain ⟨o1, ho1⟩ : ∃ o, Obj.cells #[.int .i64 1, .string ⟨#[]⟩, .bool false, .int .i64 0, .slice none 0 0, .slice none 0 0] 25 = o := ⟨_, rfl⟩
  obtain ⟨o2, ho2⟩ : ∃ o, Obj.cells #[.int .i64 7, .string ⟨#[]⟩, .bool true, .int .i64 2, .slice none 0 0, .slice (some ⟨w.heap.size, 0, none⟩) 1 1] 25 = o := ⟨_, rfl⟩
  obtain ⟨o3, ho3⟩ : ∃ o, Obj.cells #[.int .i64 7, .string ⟨#[]⟩, .bool false, .int .i64 1, .slice none 0 0, .slice (some ⟨w.heap.size + 1, 0, none⟩) 1 1] 25 = o := ⟨_, rfl⟩
  have i1 : Is (w.alloc o1) w.heap.size 25 #[.int .i64 1, .string ⟨#[]⟩, .bool false, .int .i64 0, .slice none 0 0, .slice none 0 0] := by rw [← ho1]; exact Is.made _ _ _
  have hN1 : (w.alloc o1).heap.size = w.heap.size + 1 := by simp
  have i2 : Is ((w.alloc o1).alloc o2) (w.heap.size + 1) 25 #[.int .i64 7, .string ⟨#[]⟩, .bool true, .int .i64 2, .slice none 0 0, .slice (some ⟨w.heap.size, 0, none⟩) 1 1] := by rw [← hN1, ← ho2]; rw [hN1]; exact hN1 ▸ Is.made (w.alloc o1) _ _
  have hN2 : ((w.alloc o1).alloc o2).heap.size = w.heap.size + 1 + 1 := by simp
  have i3 : Is (((w.alloc o1).alloc o2).alloc o3) (w.heap.size + 1 + 1) 25 #[.int .i64 7, .string ⟨#[]⟩, .bool false, .int .i64 1, .slice none 0 0, .slice (some ⟨w.heap.size + 1, 0, none⟩) 1 1] := by rw [← ho3]; exact hN2 ▸ Is.made ((w.alloc o1).alloc o2) _ _
  have hN3 : (((w.alloc o1).alloc o2).alloc o3).heap.size = w.heap.size + 1 + 1 + 1 := by simp
  obtain ⟨V, hV⟩ : ∃ V, ((w.alloc o1).alloc o2).alloc o3 = V := ⟨_, rfl⟩
  have hB : Below w.heap.size w V := by rw [← hV]; exact (((Below.refl _ w).alloc (Nat.le_refl _) o1).alloc (by omega) o2).alloc (by omega) o3
  have hI1 : Is V w.heap.size 25 #[.int .i64 1, .string ⟨#[]⟩, .bool false, .int .i64 0, .slice none 0 0, .slice none 0 0] := by rw [← hV]; exact (i1.alloc o2).alloc o3
  have hI2 : Is V (w.heap.size + 1) 25 #[.int .i64 7, .string ⟨#[]⟩, .bool true, .int .i64 2, .slice none 0 0, .slice (some ⟨w.heap.size, 0, none⟩) 1 1] := by rw [← hV]; exact i2.alloc o3
  have hI3 : Is V (w.heap.size + 1 + 1) 25 #[.int .i64 7, .string ⟨#[]⟩, .bool false, .int .i64 1, .slice none 0 0, .slice (some ⟨w.heap.size + 1, 0, none⟩) 1 1] := by rw [← hV]; exact i3
  have hVs : V.heap.size = w.heap.size + 1 + 1 + 1 := by rw [← hV]; exact hN3
  have hT : TyAt V 3 xT [.int .i64 7, .string ⟨#[]⟩, .bool false, .int .i64 1, .slice none 0 0, .slice (some ⟨w.heap.size + 1, 0, none⟩) 1 1] := ty_ref (ty_ref (ty_leaf V) hI1 true 2) hI2 false 1
  obtain ⟨N, hN⟩ : ∃ N, w.heap.size = N := ⟨_, rfl⟩
  rw [hN] at hT hVs hI1 hI2 hI3 ho2 ho3 hB ⊢
  have hWF := wfNil_any hT (by rw [xT_wf]; unfold Big; simp)
  rw [xT_wf] at hWF
  have HWF := Lib.hid hWF
  have HI2 := Lib.hid hI2
  have HI3 := Lib.hid hI3
  have HT := Lib.hid hT
  have HB := Lib.hid hB
  have HV := Lib.hid hV
  have HVS := Lib.hid hVs
  have HO1 := Lib.hid ho1
  have HO2 := Lib.hid ho2
  have HO3 := Lib.hid ho3
  have HN := Lib.hid hN
  clear ho1 ho2 ho3 i1 i2 i3 hN1 hN2 hN3 hV hB hI1 hI2 hI3 hVs hT hN hWF
  go_enter Tryd.func8, Tryd.ntmps8
  go_wp2_with fail
  rw [HN.out, HO1.out, HO2.out, HO3.out, HV.out]
  refine HWF.out.mono ?_
  rintro e W1 ⟨v, rfl, q1, b1⟩
  obtain ⟨ao, cp, rfl, _⟩ := own_slice q1
  obtain ⟨bk, o, rfl, hlt, hpc⟩ := own_row q1 (by rw [pairsC_length]; decide)
  have HF : Hid (∀ X, Below W1.heap.size W1 X → (X.cell? ⟨bk, o, none⟩ = some (.int .i64 2) ∧ X.cell? ⟨bk, o + 1, none⟩ = some (.int .i64 1)) ∧
      (X.cell? ⟨N + 1 + 1, 0, none⟩ = some (.int .i64 7) ∧ X.cell? ⟨N + 1 + 1, 1, none⟩ = some (.string ⟨#[]⟩) ∧ X.cell? ⟨N + 1 + 1, 2, none⟩ = some (.bool false) ∧ X.cell? ⟨N + 1 + 1, 3, none⟩ = some (.int .i64 1) ∧ X.cell? ⟨N + 1 + 1, 4, none⟩ = some (.slice none 0 0) ∧ X.cell? ⟨N + 1 + 1, 5, none⟩ = some (.slice (some ⟨N + 1, 0, none⟩) 1 1)) ∧
      (X.cell? ⟨N + 1, 0, none⟩ = some (.int .i64 7) ∧ X.cell? ⟨N + 1, 1, none⟩ = some (.string ⟨#[]⟩) ∧ X.cell? ⟨N + 1, 2, none⟩ = some (.bool true) ∧ X.cell? ⟨N + 1, 3, none⟩ = some (.int .i64 2) ∧ X.cell? ⟨N + 1, 4, none⟩ = some (.slice none 0 0) ∧ X.cell? ⟨N + 1, 5, none⟩ = some (.slice (some ⟨N, 0, none⟩) 1 1)) ∧ TyAt X 3 xT [.int .i64 7, .string ⟨#[]⟩, .bool false, .int .i64 1, .slice none 0 0, .slice (some ⟨N + 1, 0, none⟩) 1 1]) := by
    intro X hX
    have hVX := b1.trans (hX.mono b1.size)
    have j2 := HI2.out.below hVX HI2.out.lt
    have j3 := HI3.out.below hVX HI3.out.lt
    exact ⟨⟨(hX.cell (p := ⟨bk, o, none⟩) hlt).trans (hpc 0 _ rfl), (hX.cell (p := ⟨bk, o + 1, none⟩) hlt).trans (hpc 1 _ rfl)⟩, ⟨j3.at_ 0, j3.at_ 1, j3.at_ 2, j3.at_ 3, j3.at_ 4, j3.at_ 5⟩, ⟨j2.at_ 0, j2.at_ 1, j2.at_ 2, j2.at_ 3, j2.at_ 4, j2.at_ 5⟩, TyAt.below hVX _ _ _ HT.out⟩
  have B1 : Hid (Below N w W1) := by
    exact HB.out.trans (b1.mono (by rw [HVS.out]; omega))
  have HNW : Hid (N ≤ W1.heap.size) := by show N ≤ _; rw [← HN.out]; exact B1.out.size
  clear hpc hlt q1 b1 HWF HI2 HI3 HT HB HV HO1 HO2 HO3 HN
  obtain ⟨⟨p0, p1⟩, ⟨n0, n1, n2, n3, n4, n5⟩, _, hT1⟩ := HF.out W1 (Below.refl _ _)
  have HALL := Lib.hid (all_any hT1 (by rw [xT_all]; unfold Big; simp))
  go_wp2_with fail
  refine HALL.out.mono ?_
  rintro e W2 ⟨va, rfl, rA, bA, _⟩
  rw [xT_all] at rA
  obtain ⟨oL, hoL⟩ : ∃ o, Obj.cells #[.int .i64 1, .int .i64 2] 3 = o := ⟨_, rfl⟩
  have bL : Below W2.heap.size W2 (W2.alloc oL) := (Below.refl _ W2).alloc (Nat.le_refl _) oL
  have rL : RowI (W2.alloc oL) (.slice (some ⟨W2.heap.size, 0, none⟩) 2 2) [1, 2] := by rw [← hoL]; exact row_lit [1, 2] (by unfold maxLen; simp)
  have hIE := ints_eq (rA.below bL) rL
  rw [show decide (([1, 2] : List Int) = [1, 2]) = true from rfl] at hIE
  have HIE := Lib.hid hIE
  have HOL := Lib.hid hoL
  have B2 : Hid (Below W1.heap.size W1 (W2.alloc oL)) := bA.trans (bL.mono bA.size)
  clear rA bA hoL bL rL hIE HALL p0 p1 n0 n1 n2 n3 n4 n5 hT1
  go_wp2_with fail
  rw [HOL.out]
  refine HIE.out.mono ?_
  rintro e W3 ⟨rfl, q, hq⟩
  have B3 : Hid (Below W1.heap.size W1 W3) := by
    have := (below_drewN (W2.alloc oL) q).mono B2.out.size
    rw [hq] at this
    exact B2.out.trans this
  clear hq HIE B2
  obtain ⟨⟨p0, p1⟩, ⟨n0, n1, n2, n3, n4, n5⟩, _, _⟩ := HF.out W3 B3.out
  go_wp2_with fail
  refine (copies_7 W3 _ _ _ _ _ _ _ _ _).mono ?_
  rintro e W4 ⟨rfl, b4⟩
  have B4 : Hid (Below W1.heap.size W1 W4) := B3.out.trans (b4.mono B3.out.size)
  clear b4 B3 p0 p1 n0 n1 n2 n3 n4 n5
  obtain ⟨_, ⟨n0, n1, n2, n3, n4, n5⟩, ⟨m0, m1, m2, m3, m4, m5⟩, _⟩ := HF.out W4 B4.out
  go_wp2_with fail
  refine (copies_7 W4 _ _ _ _ _ _ _ _ _).mono ?_
  rintro e W5 ⟨rfl, b5⟩
  have B5 : Hid (Below W1.heap.size W1 W5) := B4.out.trans (b5.mono B4.out.size)
  clear b5 B4 n0 n1 n2 n3 n4 n5 m0 m1 m2 m3 m4 m5
  obtain ⟨_, ⟨n0, n1, n2, n3, n4, n5⟩, _, hT5⟩ := HF.out W5 B5.out
  have HTX := Lib.hid (text_any hT5 xT_pl xT_text (by unfold Lim; decide))
  unfold xTtext at HTX
  go_wp2_with fail
  refine HTX.out.mono ?_
  rintro e W6 ⟨rfl, b6⟩
  have B6 : Hid (Below N w W6) := B1.out.trans ((B5.out.trans (b6.mono B5.out.size)).mono HNW.out)
  clear b6 B5 B1 HTX HF hT5 n0 n1 n2 n3 n4 n5
  go_wp2
  go_ret
  exact ⟨rfl, B6.out⟩
end Ts
end Go.Proofs.YtiljpnghahkjhaaDoor
