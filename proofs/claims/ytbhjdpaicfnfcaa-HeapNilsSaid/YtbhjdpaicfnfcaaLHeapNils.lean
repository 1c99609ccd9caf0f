/- For all inputs HeapNils returns true; the input reads behind the call as it read before. No condition. -/
import Derived.Test.YtbhjdpaicfnfcaaHeapC1
import Derived.Test.YtbhjdpaicfnfcaaHeapZ
namespace Go.Proofs.Ytbhjdpaicfnfcaa
open Go.ChangeShapes Go.WideShapes Go.ChangeAt Go.ChangeMaps Go.RowKit Go.Deep
namespace HeapNils
open Tr
set_option maxRecDepth 100000 in
theorem lifted (os : Os) (started : os.Started) (H : Type) (enc : TypeId × Value → H) :
    ReturnsInHanded {} Try.checked os 6 .any (Rows.heapNilsSpec.pre6 enc Try.prog Try.f6 Rows.heapNilsRow.domain false) (Rows.heapNilsSpec.post enc Try.prog Try.f6 false true false false) := by
  refine returnsInHanded_of_change (C := Try.checked) own started (by kernel_rfl) Try.func6
    (ChangeSpec.witness6 (enc := enc) (C := Try.checked) false ⟨#[], #[.agg #[.int .i64 0, .int .u64 0, .string ⟨#[]⟩, .slice none 0 0, .int .i64 0, .slice none 0 0, .int .i64 0], .agg #[.int .i64 0, .slice none 0 0, .int .i64 0]], []⟩ 8 (by kernel_rfl) (by kernel_rfl) (by kernel_rfl) (by kernel_rfl)) ?_
  intro W base args ds gs before hval0 hW hcnd _
  have hval : ∀ (j : Nat) t v, Try.f6.params[j]? = some t → args[j]? = some v → Value.okWide Try.prog W .any base t v := hval0
  have hW' := hW
  obtain ⟨p, q, hA0, hV, rfl, hfz, hnd⟩ := hW
  have hA : DataW.TrodAll enc Try.prog W 0 (fun _ => true) true Try.f6.params.toList args.toList ds p := hA0
  rw [Try.params6] at hA hval
  obtain ⟨v0, v1, d0, d1, p0, p1, rfl, rfl, rfl, h0, h1⟩ := trodAll_two hA
  obtain ⟨rfl, rfl⟩ := trodVars_none hV
  obtain ⟨n0, x0, cs0, rfl, hx0⟩ := open_valV (hval 0 34 v0 rfl rfl) h0
  obtain ⟨a1, A1, l1, c1, t1, rfl⟩ := open_ptrV (hval 1 29 v1 rfl rfl) h1
  exact (Hp.nils_walk hx0 a1 A1 l1 c1 t1).mono fun e W' ⟨he, hb⟩ => ⟨_, he, law_post laidOut
    (fun t ht => by rw [Try.params6] at ht; simp at ht; rcases ht with rfl | rfl; (exact readable_v); (exact readable_p)) rfl hW' hb (by kernel_rfl) Try.underlying4 rfl⟩
/-- For all inputs the law returns true; the input reads behind the call as it read before. -/
theorem said : Rows.HeapNilsSaid :=
  OpenClaim.holds_of_wide 6 Try.f6 rfl rfl rfl rfl rfl rfl rfl ⟨rfl, rfl, rfl, rfl, rfl⟩ rfl rfl rfl rfl rfl (by kernel_rfl) Try.func6 (by kernel_rfl)
    (of_decide_eq_true (by kernel_rfl)) (by unfold Func.isWrapper; first | (rw [if_pos (by decide +kernel)]; kernel_rfl) | (rw [if_neg (by decide +kernel)]; exact ⟨rfl, rfl⟩))
    (fun os started H enc _ => lifted os started H enc)
end HeapNils
end Go.Proofs.Ytbhjdpaicfnfcaa
