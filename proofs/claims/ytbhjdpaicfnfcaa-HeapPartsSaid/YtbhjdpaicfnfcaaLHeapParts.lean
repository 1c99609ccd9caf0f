/- For all inputs HeapParts returns true; the input reads behind the call as it read before. No condition. -/
import Derived.Test.YtbhjdpaicfnfcaaHeapC2
import Derived.Test.YtbhjdpaicfnfcaaHeapS
namespace Go.Proofs.Ytbhjdpaicfnfcaa
open Go.ChangeShapes Go.WideShapes Go.ChangeAt Go.ChangeMaps Go.RowKit Go.Deep
namespace HeapParts
open Tr
set_option maxRecDepth 100000 in
theorem lifted (os : Os) (started : os.Started) (H : Type) (enc : TypeId × Value → H) :
    ReturnsInHanded {} Try.checked os 4 .any (Rows.heapPartsSpec.pre6 enc Try.prog Try.f4 Rows.heapPartsRow.domain false) (Rows.heapPartsSpec.post enc Try.prog Try.f4 false true false false) := by
  refine returnsInHanded_of_change (C := Try.checked) own started (by kernel_rfl) Try.func4
    (ChangeSpec.witness6 (enc := enc) (C := Try.checked) false ⟨#[], #[.agg #[.int .u64 0, .int .u64 0, .bool false, .bool false]], []⟩ 8 (by kernel_rfl) (by kernel_rfl) (by kernel_rfl) (by kernel_rfl)) ?_
  intro W base args ds gs before hval0 hW hcnd _
  have hval : ∀ (j : Nat) t v, Try.f4.params[j]? = some t → args[j]? = some v → Value.okWide Try.prog W .any base t v := hval0
  have hW' := hW
  obtain ⟨p, q, hA0, hV, rfl, hfz, hnd⟩ := hW
  have hA : DataW.TrodAll enc Try.prog W 0 (fun _ => true) true Try.f4.params.toList args.toList ds p := hA0
  rw [Try.params4] at hA hval
  obtain ⟨v0, d0, rfl, rfl, h0⟩ := trodAll_one hA
  obtain ⟨rfl, rfl⟩ := trodVars_none hV
  obtain ⟨a0, b0, u0, w0, rfl⟩ := open_partsV (hval 0 45 v0 rfl rfl) h0
  exact (Hp.parts_walk _ a0 b0 u0 w0).mono fun e W' ⟨he, hb⟩ => ⟨_, he, law_post laidOut
    (fun t ht => by rw [Try.params4] at ht; simp at ht; subst ht; (exact readable_pc)) rfl hW' hb (by kernel_rfl) Try.underlying4 rfl⟩
/-- For all inputs the law returns true; the input reads behind the call as it read before. -/
theorem said : Rows.HeapPartsSaid :=
  OpenClaim.holds_of_wide 4 Try.f4 rfl rfl rfl rfl rfl rfl rfl ⟨rfl, rfl, rfl, rfl, rfl⟩ rfl rfl rfl rfl rfl (by kernel_rfl) Try.func4 (by kernel_rfl)
    (of_decide_eq_true (by kernel_rfl)) (by unfold Func.isWrapper; first | (rw [if_pos (by decide +kernel)]; kernel_rfl) | (rw [if_neg (by decide +kernel)]; exact ⟨rfl, rfl⟩))
    (fun os started H enc _ => lifted os started H enc)
end HeapParts
end Go.Proofs.Ytbhjdpaicfnfcaa
