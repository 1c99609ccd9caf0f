/- The statements of layer 10: what every row's proof takes. -/
import Derived.Test.YtebnonbfjkielaaRows
import Derived.Test.YtebnonbfjkielaaClose
import Derived.Test.YtebnonbfjkielaaTypeO
import Derived.Test.YtebnonbfjkielaaSubN
import Derived.OpenShut
import Derived.JoinedCond
namespace Go.Proofs.Ytebnonbfjkielaa
open Go.ChangeShapes Go.WideShapes Go.ChangeAt Go.ChangeMaps Go.RowKit Go.Deep Tr
theorem own : ownKnob Try.prog.godebug = none := by kernel_rfl
theorem laidOut : laidOutB Try.prog = true := by kernel_rfl
theorem readable_u : Try.prog.readableRec 26 = true ∧ 26 < Try.prog.types.size := ⟨by kernel_rfl, of_decide_eq_true (by kernel_rfl)⟩
theorem readable_t : Try.prog.readableRec 25 = true ∧ 25 < Try.prog.types.size := ⟨by kernel_rfl, of_decide_eq_true (by kernel_rfl)⟩
theorem readable_c : Try.prog.readableRec 39 = true ∧ 39 < Try.prog.types.size := ⟨by kernel_rfl, of_decide_eq_true (by kernel_rfl)⟩
section
variable {H : Type} {enc : TypeId × Value → H} {W : World} {base b0 : Nat} {spare : Nat → Bool} {held : Bool} {r : Reach} {v : Value} {d : DataW H} {p : List MemPlace}
theorem open_uintV (hv : Value.okWide Try.prog W r b0 26 v) (h : DataW.Trod enc Try.prog W base spare held 26 v d p) : ∃ a : Nat, a < 18446744073709551616 ∧ v = .int .u64 (a : Int) := by
  obtain ⟨a, rfl, rfl, rfl, w⟩ := Go.ChangeShapes.open_int Try.underlying26 hv h
  have hx : 0 ≤ a ∧ a ≤ 18446744073709551615 := by simpa [Lit.wf, IntKind.min, IntKind.max, IntKind.signed, IntKind.bits] using w
  exact ⟨a.toNat, by omega, by rw [Int.toNat_of_nonneg hx.1]⟩
theorem open_tyV (hv : Value.okWide Try.prog W r b0 25 v) (h : DataW.Trod enc Try.prog W base spare held 25 v d p) : ∃ n x cs, v = .agg (List.toArray cs) ∧ TyAt W n x cs := by
  obtain ⟨cs, rfl, _⟩ := okWide_struct Try.underlying25 hv
  obtain ⟨f, h⟩ := h
  obtain ⟨x, hx, _⟩ := open_ty f _ _ _ h
  exact ⟨f, x, cs.toList, by simp, hx⟩
end
namespace Sb
def setOf (l : List Int) (i : Nat) : Nat := (l.getD i 0).toNat
/-- What a case holds: a type, lists of regions, sets, a struct's ways. -/
structure CaseAt (w : World) (n : Nat) (x : Ty) (X Y Z : List Int) (S : Nat → Nat) (a : Nat) (cs : List Value) : Prop where
  cells : ∃ k nm u r R lr cr A la ca XA lx cx YA ly cy ZA lz cz, cs = [.int .i64 k, .string nm, .bool u, .int .i64 r, .slice R lr cr, .slice A la ca, .slice XA lx cx, .slice YA ly cy, .slice ZA lz cz, .int .u64 (S 0 : Int), .int .u64 (S 1 : Int), .int .u64 (S 2 : Int), .int .u64 (S 3 : Int), .int .u64 (S 4 : Int), .int .u64 (S 5 : Int), .int .u64 (S 6 : Int), .int .u64 (S 7 : Int), .int .u64 (a : Int)]
    ∧ TyAt w n x [.int .i64 k, .string nm, .bool u, .int .i64 r, .slice R lr cr, .slice A la ca] ∧ RowI w (.slice XA lx cx) X ∧ RowI w (.slice YA ly cy) Y ∧ RowI w (.slice ZA lz cz) Z
  big : ∀ i, S i < 18446744073709551616
  from_ : a < 18446744073709551616
end Sb
section
variable {H : Type} {enc : TypeId × Value → H} {W : World} {base b0 : Nat} {spare : Nat → Bool} {held : Bool} {r : Reach} {v : Value} {d : DataW H} {p : List MemPlace}
theorem k_case : Try.prog.cellsOf 39 = 18 := by kernel_rfl
theorem k_sets : Try.prog.cellsOf 37 = 8 := by kernel_rfl
theorem k_u64 : Try.prog.cellsOf 26 = 1 := by kernel_rfl
theorem u64_b {z : Int} (w : (Lit.int .u64 z).wf = true) : 0 ≤ z ∧ z ≤ 18446744073709551615 := by simpa [Lit.wf, IntKind.min, IntKind.max, IntKind.signed, IntKind.bits] using w
theorem open_caseV (hv : Value.okWide Try.prog W r b0 39 v) (h : DataW.Trod enc Try.prog W base spare held 39 v d p) : ∃ n x X Y Z S a cs, v = .agg (List.toArray cs) ∧ Sb.CaseAt W n x X Y Z S a cs := by
  obtain ⟨cv, rfl, _⟩ := okWide_struct Try.underlying39 hv
  obtain ⟨f, h⟩ := h
  have h : DataW.trod enc Try.prog W base spare held f 39 cv.toList = some (d, p) := h
  obtain ⟨xs, n, hn, _, hl, hxl, hf⟩ := DataW.trod_struct Try.underlying39 h
  rw [k_case] at hl
  obtain ⟨cs, hcs⟩ : ∃ cs, cv.toList = cs := ⟨_, rfl⟩
  have hcv : cv = cs.toArray := by rw [← hcs]
  rw [hcs] at hl hf
  subst hcv
  match cs, hl, xs, hxl with
  | [v0, v1, v2, v3, v4, v5, v6, v7, v8, v9, v10, v11, v12, v13, v14, v15, v16, v17], _, [y0, y1, y2, y3, y4, y5], _ =>
    have g0 := hf 0 _ rfl
    have g1 := hf 1 _ rfl
    have g2 := hf 2 _ rfl
    have g3 := hf 3 _ rfl
    have g4 := hf 4 _ rfl
    have g5 := hf 5 _ rfl
    simp [k_ty, k_ints, k_sets, k_u64] at g0 g1 g2 g3 g4 g5
    obtain ⟨x, hx, _⟩ := open_ty n _ _ _ g0
    obtain ⟨A1, l1, c1, e1, h1, _, _⟩ := open_listAt IntAt (fun _ => 0) Try.underlying22 k_int (by decide) (fun _ _ h => h.one.2) (fun _ _ _ h => Tr.open_int h) g1
    obtain ⟨A2, l2, c2, e2, h2, _, _⟩ := open_listAt IntAt (fun _ => 0) Try.underlying22 k_int (by decide) (fun _ _ h => h.one.2) (fun _ _ _ h => Tr.open_int h) g2
    obtain ⟨A3, l3, c3, e3, h3, _, _⟩ := open_listAt IntAt (fun _ => 0) Try.underlying22 k_int (by decide) (fun _ _ h => h.one.2) (fun _ _ _ h => Tr.open_int h) g3
    obtain ⟨zs, m, _, _, _, hz8, hz⟩ := DataW.trod_array Try.underlying37 g4
    match zs, hz8 with
    | [w0, w1, w2, w3, w4, w5, w6, w7], _ =>
      have q0 := hz 0 (by decide)
      have q1 := hz 1 (by decide)
      have q2 := hz 2 (by decide)
      have q3 := hz 3 (by decide)
      have q4 := hz 4 (by decide)
      have q5 := hz 5 (by decide)
      have q6 := hz 6 (by decide)
      have q7 := hz 7 (by decide)
      simp [k_u64] at q0 q1 q2 q3 q4 q5 q6 q7
      obtain ⟨z0, r0, _, t0⟩ := DataW.trod_int Try.underlying26 q0
      obtain ⟨z1, r1, _, t1⟩ := DataW.trod_int Try.underlying26 q1
      obtain ⟨z2, r2, _, t2⟩ := DataW.trod_int Try.underlying26 q2
      obtain ⟨z3, r3, _, t3⟩ := DataW.trod_int Try.underlying26 q3
      obtain ⟨z4, r4, _, t4⟩ := DataW.trod_int Try.underlying26 q4
      obtain ⟨z5, r5, _, t5⟩ := DataW.trod_int Try.underlying26 q5
      obtain ⟨z6, r6, _, t6⟩ := DataW.trod_int Try.underlying26 q6
      obtain ⟨z7, r7, _, t7⟩ := DataW.trod_int Try.underlying26 q7
      obtain ⟨a, ra, _, ta⟩ := DataW.trod_int Try.underlying26 g5
      obtain ⟨k, nm, u, r, R, lr, cr, A, la, ca, ec⟩ := hx.shape
      have b0 := u64_b t0
      have b1 := u64_b t1
      have b2 := u64_b t2
      have b3 := u64_b t3
      have b4 := u64_b t4
      have b5 := u64_b t5
      have b6 := u64_b t6
      have b7 := u64_b t7
      have ba := u64_b ta
      rw [ec] at hx
      simp at ec e1 e2 e3 r0 r1 r2 r3 r4 r5 r6 r7 ra
      obtain ⟨ec0, ec1, ec2, ec3, ec4, ec5⟩ := ec
      subst ec0 ec1 ec2 ec3 ec4 ec5 e1 e2 e3 r0 r1 r2 r3 r4 r5 r6 r7 ra
      refine ⟨n, x, l1, l2, l3, Sb.setOf [z0, z1, z2, z3, z4, z5, z6, z7], a.toNat, _, rfl, ⟨k, nm, u, r, R, lr, cr, A, la, ca, A1, l1.length, c1, A2, l2.length, c2, A3, l3.length, c3, ?_, hx, ⟨A1, c1, rfl, h1⟩, ⟨A2, c2, rfl, h2⟩, ⟨A3, c3, rfl, h3⟩⟩, ?_, by omega⟩
      · simp only [Sb.setOf, List.getD_cons_zero, List.getD_cons_succ]
        rw [Int.toNat_of_nonneg b0.1, Int.toNat_of_nonneg b1.1, Int.toNat_of_nonneg b2.1, Int.toNat_of_nonneg b3.1, Int.toNat_of_nonneg b4.1, Int.toNat_of_nonneg b5.1, Int.toNat_of_nonneg b6.1, Int.toNat_of_nonneg b7.1, Int.toNat_of_nonneg ba.1]
      · intro i
        unfold Sb.setOf
        rcases Nat.lt_or_ge i 8 with hi | hi
        · have : i = 0 ∨ i = 1 ∨ i = 2 ∨ i = 3 ∨ i = 4 ∨ i = 5 ∨ i = 6 ∨ i = 7 := by omega
          rcases this with rfl | rfl | rfl | rfl | rfl | rfl | rfl | rfl <;> simp <;> omega
        · rw [List.getD_eq_getElem?_getD, List.getElem?_eq_none (by simpa using hi)]
          decide
end
end Go.Proofs.Ytebnonbfjkielaa
