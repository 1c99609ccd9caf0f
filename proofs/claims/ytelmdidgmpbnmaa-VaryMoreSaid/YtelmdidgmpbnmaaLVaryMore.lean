/- For all inputs VaryMore returns true; the input reads behind the call as it read before. No condition. -/
import Derived.Test.YtelmdidgmpbnmaaVaryO
import Derived.Test.YtelmdidgmpbnmaaVaryC0
namespace Go.Proofs.Ytelmdidgmpbnmaa
open Go.ChangeShapes Go.WideShapes Go.ChangeAt Go.ChangeMaps Go.RowKit Go.Deep
namespace VaryMore
open Tr
set_option maxRecDepth 100000 in
theorem lifted (os : Os) (started : os.Started) (H : Type) (enc : TypeId × Value → H) :
    ReturnsInHanded {} Try.checked os 5 .any (Rows.varyMoreSpec.pre6 enc Try.prog Try.f5 Rows.varyMoreRow.domain false) (Rows.varyMoreSpec.post enc Try.prog Try.f5 false true false false) := by
  refine returnsInHanded_of_change (C := Try.checked) own started (by kernel_rfl) Try.func5
    (ChangeSpec.witness6 (enc := enc) (C := Try.checked) false ⟨#[], #[.slice none 0 0, .agg #[.int .i64 0, .string ⟨#[]⟩, .bool false, .int .i64 0, .slice none 0 0, .slice none 0 0], .int .i64 0], []⟩ 8 (by kernel_rfl) (by kernel_rfl) (by kernel_rfl) (by kernel_rfl)) ?_
  intro W base args ds gs before hval0 hW hcnd _
  have hval : ∀ (j : Nat) t v, Try.f5.params[j]? = some t → args[j]? = some v → Value.okWide Try.prog W .any base t v := hval0
  have hW' := hW
  obtain ⟨p, q, hA0, hV, rfl, hfz, hnd⟩ := hW
  have hA : DataW.TrodAll enc Try.prog W 0 (fun _ => true) true Try.f5.params.toList args.toList ds p := hA0
  rw [Try.params5] at hA hval
  obtain ⟨v0, v1, v2, d0, d1, d2, p0, p1, p2, rfl, rfl, rfl, h0, h1, h2⟩ := trodAll_three hA
  obtain ⟨rfl, rfl⟩ := trodVars_none hV
  obtain ⟨n0, A0, l0, c0, rfl, hl0⟩ := open_defsV (hval 0 31 v0 rfl rfl) h0
  obtain ⟨n1, x1, cs1, rfl, hx1⟩ := open_tyV (hval 1 34 v1 rfl rfl) h1
  obtain ⟨a2, rfl, rfl, rfl, _⟩ := Go.ChangeShapes.open_int Try.underlying3 (hval 2 3 v2 rfl rfl) h2
  exact (Vy.varyMore_walk a2 hl0 hx1).mono fun e W' ⟨he, hb⟩ => ⟨_, he, law_post laidOut
    (fun t ht => by rw [Try.params5] at ht; simp at ht; rcases ht with rfl | rfl | rfl; (exact readable_ds); (exact readable_t); (exact readable_i)) rfl hW' hb (by kernel_rfl) Try.underlying4 rfl⟩
/-- For all inputs the law returns true; the input reads behind the call as it read before. -/
theorem said : Rows.VaryMoreSaid :=
  OpenClaim.holds_of_wide 5 Try.f5 rfl rfl rfl rfl rfl rfl rfl ⟨rfl, rfl, rfl, rfl, rfl⟩ rfl rfl rfl rfl rfl (by kernel_rfl) Try.func5 (by kernel_rfl)
    (of_decide_eq_true (by kernel_rfl)) (by unfold Func.isWrapper; first | (rw [if_pos (by decide +kernel)]; kernel_rfl) | (rw [if_neg (by decide +kernel)]; exact ⟨rfl, rfl⟩))
    (fun os started H enc _ => lifted os started H enc)
end VaryMore
end Go.Proofs.Ytelmdidgmpbnmaa
