/- For all inputs SubWays returns true; the input reads behind the call as it read before. No condition. -/
import Derived.Test.YtbbjlblljhipjaaSubC0
import Derived.Test.YtbbjlblljhipjaaSubS
namespace Go.Proofs.Ytbbjlblljhipjaa
open Go.ChangeShapes Go.WideShapes Go.ChangeAt Go.ChangeMaps Go.RowKit Go.Deep
namespace SubWays
open Tr
set_option maxRecDepth 100000 in
theorem lifted (os : Os) (started : os.Started) (H : Type) (enc : TypeId × Value → H) :
    ReturnsInHanded {} Try.checked os 6 .any (Rows.subWaysSpec.pre6 enc Try.prog Try.f6 Rows.subWaysRow.domain false) (Rows.subWaysSpec.post enc Try.prog Try.f6 false true false false) := by
  refine returnsInHanded_of_change (C := Try.checked) own started (by kernel_rfl) Try.func6
    (ChangeSpec.witness6 (enc := enc) (C := Try.checked) false ⟨#[], #[.agg #[.int .i64 0, .string ⟨#[]⟩, .bool false, .int .i64 0, .slice none 0 0, .slice none 0 0, .slice none 0 0, .slice none 0 0, .slice none 0 0, .int .u64 0, .int .u64 0, .int .u64 0, .int .u64 0, .int .u64 0, .int .u64 0, .int .u64 0, .int .u64 0, .int .u64 0], .int .u64 0], []⟩ 8 (by kernel_rfl) (by kernel_rfl) (by kernel_rfl) (by kernel_rfl)) ?_
  intro W base args ds gs before hval0 hW hcnd _
  have hval : ∀ (j : Nat) t v, Try.f6.params[j]? = some t → args[j]? = some v → Value.okWide Try.prog W .any base t v := hval0
  have hW' := hW
  obtain ⟨p, q, hA0, hV, rfl, hfz, hnd⟩ := hW
  have hA : DataW.TrodAll enc Try.prog W 0 (fun _ => true) true Try.f6.params.toList args.toList ds p := hA0
  rw [Try.params6] at hA hval
  obtain ⟨v0, v1, d0, d1, p0, p1, rfl, rfl, rfl, h0, h1⟩ := trodAll_two hA
  obtain ⟨rfl, rfl⟩ := trodVars_none hV
  obtain ⟨n0, x0, X0, Y0, Z0, S0, a0, cs0, rfl, hx0⟩ := open_caseV (hval 0 39 v0 rfl rfl) h0
  obtain ⟨a1, ha1, rfl⟩ := open_uintV (hval 1 26 v1 rfl rfl) h1
  exact (Sb.subWays_walk hx0 a1 ha1).mono fun e W' ⟨he, hb⟩ => ⟨_, he, law_post laidOut
    (fun t ht => by rw [Try.params6] at ht; simp at ht; rcases ht with rfl | rfl; (exact readable_c); (exact readable_u)) rfl hW' hb (by kernel_rfl) Try.underlying4 rfl⟩
/-- For all inputs the law returns true; the input reads behind the call as it read before. -/
theorem said : Rows.SubWaysSaid :=
  OpenClaim.holds_of_wide 6 Try.f6 rfl rfl rfl rfl rfl rfl rfl ⟨rfl, rfl, rfl, rfl, rfl⟩ rfl rfl rfl rfl rfl (by kernel_rfl) Try.func6 (by kernel_rfl)
    (of_decide_eq_true (by kernel_rfl)) (by unfold Func.isWrapper; first | (rw [if_pos (by decide +kernel)]; kernel_rfl) | (rw [if_neg (by decide +kernel)]; exact ⟨rfl, rfl⟩))
    (fun os started H enc _ => lifted os started H enc)
end SubWays
end Go.Proofs.Ytbbjlblljhipjaa
