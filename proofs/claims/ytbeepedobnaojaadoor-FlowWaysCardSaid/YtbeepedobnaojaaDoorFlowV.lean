/- The walk of FlowNils. -/
import Derived.Test.YtbeepedobnaojaaDoorFlowU
namespace Go.Proofs.YtbeepedobnaojaaDoor
open Go.RowKit Lf Go.Deep Sv Tr
namespace Fl
theorem nil_pb (w : World) (wd : Int) : PbAt w (.slice none 0 0) (.slice none 0 0) (.slice none 0 0) (.slice none 0 0) ⟨[], wd, [], [], []⟩ := by
  have hl : LsAt w (.slice none 0 0) [] := ⟨none, 0, rfl, ListAt.none _ _ _ _⟩
  exact ⟨hl, hl, hl, RowI.nil w⟩
theorem nil_code (wd : Int) : codeP ⟨[], wd, [], [], []⟩ = if wd < 0 ∨ 4000 < wd then 2 else 0 := rfl
set_option maxHeartbeats 1000000 in
theorem flowNils_walk {w : World} (hT : TabAt w) (wd i e : Int) :
    Calls Tryd.prog 8 #[.int .i64 wd, .int .i64 i, .int .i64 e] w fun x w' => x = .returned (.bool true) ∧ Below w.heap.size w w' := by
  have HT := Lib.hid hT
  by_cases hw : wd < 0 ∨ 4000 < wd
  · have HF : Hid (∀ X : World, Calls Tryd.prog 11 #[.agg #[.slice none 0 0, .int .i64 wd, .slice none 0 0, .slice none 0 0, .slice none 0 0]] X fun e w' => e = .returned (.tuple #[.pointer none, .int .i64 2]) ∧ Below X.heap.size X w') := fun X => by
      have := forward_bad (nil_pb X wd) (by rw [nil_code, if_pos hw]; decide) (Nat.zero_le 64)
      rw [nil_code, if_pos hw] at this
      exact this
    have HB : Hid (∀ X : World, Calls Tryd.prog 16 #[.agg #[.slice none 0 0, .int .i64 wd, .slice none 0 0, .slice none 0 0, .slice none 0 0]] X fun e w' => e = .returned (.tuple #[.pointer none, .int .i64 2]) ∧ Below X.heap.size X w') := fun X => by
      have := backward_bad (nil_pb X wd) (by rw [nil_code, if_pos hw]; decide) (Nat.zero_le 64)
      rw [nil_code, if_pos hw] at this
      exact this
    clear hT
    by_cases hneg : wd < 0
    · have hd : decide (wd < 0) = true := decide_eq_true hneg
      clear hw
      go_enter Tryd.func8, Tryd.ntmps8
      go_wp2_with fail
      refine (HF.out _).mono ?_
      rintro x w1 ⟨rfl, q1⟩
      have B1 := Lib.hid q1
      clear q1
      go_wp2_with fail
      refine (HB.out _).mono ?_
      rintro x w2 ⟨rfl, q2⟩
      have B2 := Lib.hid (B1.out.trans (q2.mono B1.out.size))
      clear q2 B1
      go_wp2_with fail
      refine (flowed_any (HT.out.below B2.out HT.out.pos)).mono ?_
      rintro x w3 ⟨rfl, q3⟩
      have B3 := Lib.hid (B2.out.trans (q3.mono B2.out.size))
      clear q3 B2
      go_wp2_with fail
      refine (has_nil _ _ _).mono ?_
      rintro x w4 ⟨rfl, rfl⟩
      go_wp2_with fail
      refine (list_nil _ _).mono ?_
      rintro x w4 ⟨rfl, rfl⟩
      go_wp2
      go_ret
      exact ⟨rfl, B3.out⟩
    · have hd : decide (wd < 0) = false := decide_eq_false hneg
      have hd2 : decide (4000 < wd) = true := decide_eq_true (by omega)
      clear hw
      go_enter Tryd.func8, Tryd.ntmps8
      go_wp2_with fail
      refine (HF.out _).mono ?_
      rintro x w1 ⟨rfl, q1⟩
      have B1 := Lib.hid q1
      clear q1
      go_wp2_with fail
      refine (HB.out _).mono ?_
      rintro x w2 ⟨rfl, q2⟩
      have B2 := Lib.hid (B1.out.trans (q2.mono B1.out.size))
      clear q2 B1
      go_wp2_with fail
      refine (flowed_any (HT.out.below B2.out HT.out.pos)).mono ?_
      rintro x w3 ⟨rfl, q3⟩
      have B3 := Lib.hid (B2.out.trans (q3.mono B2.out.size))
      clear q3 B2
      go_wp2_with fail
      refine (has_nil _ _ _).mono ?_
      rintro x w4 ⟨rfl, rfl⟩
      go_wp2_with fail
      refine (list_nil _ _).mono ?_
      rintro x w4 ⟨rfl, rfl⟩
      go_wp2
      go_ret
      exact ⟨rfl, B3.out⟩
  · obtain ⟨m, rfl⟩ : ∃ m : Nat, wd = m := ⟨wd.toNat, by omega⟩
    have HF : Hid (∀ X : World, Calls Tryd.prog 11 #[.agg #[.slice none 0 0, .int .i64 m, .slice none 0 0, .slice none 0 0, .slice none 0 0]] X fun e w' => ∃ a b, e = .returned (.tuple #[.pointer (some ⟨a, 0, none⟩), .int .i64 0]) ∧ Is w' a 48 #[.int .i64 0, .slice (some ⟨b, 0, none⟩) m m] ∧ Below X.heap.size X w') := fun X =>
      forward_none (nil_pb X m) (by rw [nil_code, if_neg hw]) rfl rfl
    have HB : Hid (∀ X : World, Calls Tryd.prog 16 #[.agg #[.slice none 0 0, .int .i64 m, .slice none 0 0, .slice none 0 0, .slice none 0 0]] X fun e w' => ∃ a b, e = .returned (.tuple #[.pointer (some ⟨a, 0, none⟩), .int .i64 0]) ∧ Is w' a 48 #[.int .i64 0, .slice (some ⟨b, 0, none⟩) m m] ∧ Below X.heap.size X w') := fun X =>
      backward_none (nil_pb X m) (by rw [nil_code, if_neg hw]) rfl rfl
    have hd2 : decide ((4000 : Int) < m) = false := decide_eq_false (by omega)
    clear hT hw
    go_enter Tryd.func8, Tryd.ntmps8
    go_wp2_with fail
    refine (HF.out _).mono ?_
    rintro x w1 ⟨a1, b1, rfl, _, q1⟩
    have B1 := Lib.hid q1
    clear q1
    go_wp2_with fail
    refine (HB.out _).mono ?_
    rintro x w2 ⟨a2, b2, rfl, _, q2⟩
    have B2 := Lib.hid (B1.out.trans (q2.mono B1.out.size))
    clear q2 B1
    go_wp2_with fail
    refine (flowed_any (HT.out.below B2.out HT.out.pos)).mono ?_
    rintro x w3 ⟨rfl, q3⟩
    have B3 := Lib.hid (B2.out.trans (q3.mono B2.out.size))
    clear q3 B2
    go_wp2_with fail
    refine (has_nil _ _ _).mono ?_
    rintro x w4 ⟨rfl, rfl⟩
    go_wp2_with fail
    refine (list_nil _ _).mono ?_
    rintro x w4 ⟨rfl, rfl⟩
    go_wp2
    go_ret
    exact ⟨rfl, B3.out⟩
end Fl
end Go.Proofs.YtbeepedobnaojaaDoor
