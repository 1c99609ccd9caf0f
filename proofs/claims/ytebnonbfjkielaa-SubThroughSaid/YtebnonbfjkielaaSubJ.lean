/- Layer 10: what all laws look at first. -/
import Derived.Test.YtebnonbfjkielaaSubI
namespace Go.Proofs.Ytebnonbfjkielaa
open Go.RowKit Go.Deep Tr Ts Vy Mp
namespace Sb
def xI : Ty := .mk 1 ⟨#[]⟩ false 0 [] []
def refT (r : Int) : Ty := .mk 7 ⟨#[]⟩ false r [] [xI]
theorem ty_leaf (W : World) : TyAt W 1 xI [.int .i64 1, .string ⟨#[]⟩, .bool false, .int .i64 0, .slice none 0 0, .slice none 0 0] :=
  ⟨none, 0, none, 0, rfl, ⟨⟨Nat.zero_le _, Nat.zero_le _⟩, ListAt.none _ _ _ _⟩, ListAt.none _ _ _ _⟩
theorem list_one {W : World} {b t n : Nat} {cs : List Value} {x : Ty} (h : TyAt W n x cs) (hi : Is W b t cs.toArray) : ListAt W 6 (TyAt W n) (some ⟨b, 0, none⟩) [x] := by
  refine ⟨cs, ⟨by rw [h.one.1]; rfl, by unfold maxLen; simp⟩, ⟨fun _ => ⟨b, 0, rfl, hi.lt, fun i u hu => ?_⟩, h.one.2⟩, fun i hi => ?_⟩
  · rw [Nat.zero_add, hi.at_ i]
    simpa using hu
  · have h0 : i = 0 := by simp at hi; exact hi
    subst h0
    rw [Nat.zero_mul, List.drop_zero, List.take_of_length_le (Nat.le_of_eq h.one.1)]
    exact h
theorem ty_ref {W : World} {b t n : Nat} {cs : List Value} {x : Ty} (h : TyAt W n x cs) (hi : Is W b t cs.toArray) (u : Bool) (r : Int) :
    TyAt W (n + 1) (.mk 7 ⟨#[]⟩ u r [] [x]) [.int .i64 7, .string ⟨#[]⟩, .bool u, .int .i64 r, .slice none 0 0, .slice (some ⟨b, 0, none⟩) 1 1] :=
  ⟨none, 0, some ⟨b, 0, none⟩, 1, rfl, ⟨⟨Nat.zero_le _, Nat.zero_le _⟩, ListAt.none _ _ _ _⟩, list_one h hi⟩
set_option maxHeartbeats 4000000 in
set_option maxRecDepth 100000 in
theorem ref_any (r : Int) (W : World) : Calls Try.prog 14 #[.int .i64 r] W fun e W' => ∃ cs : List Value, e = .returned (.agg cs.toArray) ∧ TyAt W' 2 (refT r) cs ∧ Below W.heap.size W W' := by
  go_enter Try.func14, Try.ntmps14
  go_wp2
  refine bodyPost_ret (v := .agg #[.int .i64 7, .string ⟨#[]⟩, .bool false, .int .i64 r, .slice none 0 0, .slice (some ⟨W.heap.size + 1, 0, none⟩) 1 1]) (by simp [results, Try.results14, go_sem]) rfl ⟨[.int .i64 7, .string ⟨#[]⟩, .bool false, .int .i64 r, .slice none 0 0, .slice (some ⟨W.heap.size + 1, 0, none⟩) 1 1], rfl, ?_, ?_⟩
  · refine ty_ref (t := 25) (ty_leaf _) ?_ false r
    have := Is.made (W.alloc (.cells #[.int .i64 7, .string ⟨#[]⟩, .bool false, .int .i64 r, .slice none 0 0, .slice (some ⟨W.heap.size + 1, 0, none⟩) 1 1] 25)) 25 #[.int .i64 1, .string ⟨#[]⟩, .bool false, .int .i64 0, .slice none 0 0, .slice none 0 0]
    rw [show (W.alloc (.cells #[.int .i64 7, .string ⟨#[]⟩, .bool false, .int .i64 r, .slice none 0 0, .slice (some ⟨W.heap.size + 1, 0, none⟩) 1 1] 25)).heap.size = W.heap.size + 1 by simp] at this
    exact this
  · exact ((Below.refl _ W).alloc (Nat.le_refl _) _).alloc (by simp) _
theorem look_refs : lookP (fun _ => none) (refT 1) (refT 2) 1 = [(1, 2)] := by simp [refT, xI, lookP, lookQL, sayP]
theorem same_refs : sameP (refT 1) (refT 2) = true := by simp [refT, xI, sameP, sameL, headP]
theorem same_leaf : sameP (refT 1) xI = false := by simp [refT, xI, sameP, headP]
theorem all_ref (r : Int) : (allP (refT r)).length = 1 := by simp [refT, xI, allP, gath, gathL, ownP]
theorem few_none (s : ByteArray) (i : Nat) : wayOf (fun _ => none) s i < 4 := by show (3 : Nat) < 4; decide
@[go_sem] theorem eql_pair (w : World) : (Op.equalIn 10000 35 (.agg #[.int .i64 1, .int .i64 2]) (.agg #[.int .i64 1, .int .i64 2])).run Try.prog w = .ok true w := by kernel_rfl
set_option maxHeartbeats 4000000 in
set_option maxRecDepth 100000 in
theorem does_any (W : World) : Calls Try.prog 7 #[] W fun e W' => e = .returned (.bool true) ∧ Below W.heap.size W W' := by
  go_enter Try.func7, Try.ntmps7
  go_wp2_with fail
  refine (ref_any 1 W).mono ?_
  rintro e w1 ⟨cs1, rfl, t1, b1⟩
  have T1 := Lib.hid t1
  have B1 := Lib.hid b1
  clear t1 b1
  go_wp2_with fail
  refine (ref_any 2 w1).mono ?_
  rintro e w2 ⟨cs2, rfl, t2, b2⟩
  have HP := Lib.hid (pairs_any (TyAt.below b2 _ _ _ T1.out) t2 (.inl ⟨rfl, rfl⟩) few_none (by rw [all_ref]; unfold Big; omega))
  have B2 := Lib.hid (B1.out.trans (b2.mono B1.out.size))
  clear t2 b2 T1 B1
  go_wp2_with fail
  refine HP.out.mono ?_
  rintro e w3 ⟨⟨pv, rfl, hr⟩, b3⟩
  rw [same_refs, if_pos rfl, look_refs] at hr
  rw [same_refs]
  obtain ⟨A, c, rfl, hl⟩ := hr
  obtain ⟨bk, o, rfl, hlt, hc1, hc2⟩ := pair_at hl (show 0 < ([(1, 2)] : Ps).length by decide)
  rw [Nat.zero_mul, Nat.add_zero] at hc1 hc2
  have HC : Hid (∀ X, Below w3.heap.size w3 X → X.cell? ⟨bk, o, none⟩ = some (.int .i64 1) ∧ X.cell? ⟨bk, o + 1, none⟩ = some (.int .i64 2)) := fun X hX => ⟨(hX.cell (p := ⟨bk, o, none⟩) hlt).trans hc1, (hX.cell (p := ⟨bk, o + 1, none⟩) hlt).trans hc2⟩
  have B3 := Lib.hid (B2.out.trans (b3.mono B2.out.size))
  clear hl hlt hc1 hc2 b3 HP B2
  go_wp2_with fail
  refine (ref_any 1 w3).mono ?_
  rintro e w4 ⟨cs4, rfl, t4, b4⟩
  have HP := Lib.hid (pairs_any t4 (ty_leaf w4) (.inl ⟨rfl, rfl⟩) few_none (by rw [all_ref]; unfold Big; omega))
  have B4 := Lib.hid b4
  clear t4 b4
  go_wp2_with fail
  refine HP.out.mono ?_
  rintro e w5 ⟨⟨pv, rfl, hr⟩, b5⟩
  rw [same_leaf]
  obtain ⟨c1, c2⟩ := HC.out w5 (B4.out.trans (b5.mono B4.out.size))
  have B5 : Hid (Below W.heap.size W w5) := B3.out.trans ((B4.out.trans (b5.mono B4.out.size)).mono B3.out.size)
  clear hr b5 HP B4 HC B3
  go_wp2
  go_ret
  exact ⟨rfl, B5.out⟩
end Sb
end Go.Proofs.Ytebnonbfjkielaa
