/- Layer 13: values let go. -/
import Derived.Test.YtbhjdpaicfnfcaaHeapL
namespace Go.Proofs.Ytbhjdpaicfnfcaa
open Go.RowKit Go.Deep Tr
namespace Hp
set_option maxHeartbeats 8000000
set_option maxRecDepth 100000
theorem drop_leaf (w : World) (hp : Option Addr) (k : Int) (h5 : k ≠ 5) (h6 : k ≠ 6) (n : Int) (nm : ByteArray) (P : Option Addr) (lp cp : Nat) (al : Int) (R : Option Addr) (lr cr : Nat) (tg : Int) :
    Calls Try.prog 22 #[.pointer hp, .agg #[.int .i64 k, .int .u64 n, .string nm, .slice P lp cp, .int .i64 al, .slice R lr cr, .int .i64 tg]] w fun e w' => e = .returned (.int .i64 0) ∧ Below w.heap.size w w' := by
  have e5 : (k == 5) = false := by rw [beq_eq_false_iff_ne]; exact h5
  have e6 : (k == 6) = false := by rw [beq_eq_false_iff_ne]; exact h6
  clear h5 h6
  go_enter Try.func22, Try.ntmps22
  go_wp2
  obtain ⟨N, hN⟩ : ∃ N, w.heap.size = N := ⟨_, rfl⟩
  have HN := Lib.hid hN
  obtain ⟨W2, hW2⟩ : ∃ W2, ((w.alloc (.cells #[.int .i64 k, .int .u64 n, .string nm, .slice P lp cp, .int .i64 al, .slice R lr cr, .int .i64 tg] 34)).alloc (.cells #[.int .i64 k, .int .u64 n, .string nm, .slice P lp cp, .int .i64 al, .slice R lr cr, .int .i64 tg] 34)) = W2 := ⟨_, rfl⟩
  have HQ : Hid (Is W2 N 34 #[.int .i64 k, .int .u64 n, .string nm, .slice P lp cp, .int .i64 al, .slice R lr cr, .int .i64 tg] ∧ Is W2 (N + 1) 34 #[.int .i64 k, .int .u64 n, .string nm, .slice P lp cp, .int .i64 al, .slice R lr cr, .int .i64 tg] ∧ Below N w W2) := by
    subst hN
    rw [← hW2]
    refine ⟨(Is.made w _ _).alloc _, ?_, ((Below.refl _ w).alloc (Nat.le_refl _) _).alloc (by simp) _⟩
    have := Is.made (w.alloc (.cells #[.int .i64 k, .int .u64 n, .string nm, .slice P lp cp, .int .i64 al, .slice R lr cr, .int .i64 tg] 34)) 34 #[.int .i64 k, .int .u64 n, .string nm, .slice P lp cp, .int .i64 al, .slice R lr cr, .int .i64 tg]
    simp only [size_al] at this
    exact this
  rw [hW2, hN]
  clear hW2 hN
  go_loopw [5] (fun s wr => (s = .slice (some ⟨N + 1, 0, none⟩) 1 1 ∧ Hid (Is wr N 34 #[.int .i64 k, .int .u64 n, .string nm, .slice P lp cp, .int .i64 al, .slice R lr cr, .int .i64 tg] ∧ Is wr (N + 1) 34 #[.int .i64 k, .int .u64 n, .string nm, .slice P lp cp, .int .i64 al, .slice R lr cr, .int .i64 tg] ∧ Below N w wr)) ∨ (s = .slice (some ⟨N + 1, 0, none⟩) 0 1 ∧ Hid (Below N w wr))) (fun s _ => match s with | .slice _ 1 _ => 1 | _ => 0)
  case atStart => exact .inl ⟨rfl, HQ⟩
  case round =>
    rcases hrel with ⟨rfl, HJ⟩ | ⟨rfl, HJ⟩
    · have k0 := HJ.out.2.1.at_ 0
      have k1 := HJ.out.2.1.at_ 1
      have k2 := HJ.out.2.1.at_ 2
      have k3 := HJ.out.2.1.at_ 3
      have k4 := HJ.out.2.1.at_ 4
      have k5 := HJ.out.2.1.at_ 5
      have k6 := HJ.out.2.1.at_ 6
      have m0 := HJ.out.1.at_ 0
      have m1 := HJ.out.1.at_ 1
      have m2 := HJ.out.1.at_ 2
      have m3 := HJ.out.1.at_ 3
      have m4 := HJ.out.1.at_ 4
      have m5 := HJ.out.1.at_ 5
      have m6 := HJ.out.1.at_ 6
      have mf : ∀ i, wr.frozen? ⟨N, i, none⟩ = false := fun i => HJ.out.1.free i
      simp at k0 k1 k2 k3 k4 k5 k6 m0 m1 m2 m3 m4 m5 m6
      go_wp2_with fail
      go_region_law (fail)
      all_goals
        have B8 : Hid (Below N w (((((((wr.setCell ⟨N, 0, none⟩ (.int .i64 k)).setCell ⟨N, 1, none⟩ (.int .u64 n)).setCell ⟨N, 2, none⟩ (.string nm)).setCell ⟨N, 3, none⟩ (.slice P lp cp)).setCell ⟨N, 4, none⟩ (.int .i64 al)).setCell ⟨N, 5, none⟩ (.slice R lr cr)).setCell ⟨N, 6, none⟩ (.int .i64 tg)).drew) := ((((((((HJ.out.2.2.setCell (Nat.le_refl N) _).setCell (Nat.le_refl N) _).setCell (Nat.le_refl N) _).setCell (Nat.le_refl N) _).setCell (Nat.le_refl N) _).setCell (Nat.le_refl N) _).setCell (Nat.le_refl N) _).drew)
        go_wp2
        exact ⟨.inr ⟨rfl, B8⟩, Nat.zero_lt_one⟩
    · go_wp2
      go_ret
      exact ⟨rfl, by rw [HN.out]; exact HJ.out⟩
theorem drop_none (w : World) (hp : Option Addr) (n : Int) (nm : ByteArray) (P : Option Addr) (lp cp : Nat) (al : Int) (R : Option Addr) (lr cr : Nat) (tg : Int)
    (hfd : ∀ X, Below w.heap.size w X → Calls Try.prog 33 #[.pointer hp, .int .i64 al] X fun e w' => e = .returned (.tuple #[.pointer none, .int .i64 1]) ∧ X = w') :
    Calls Try.prog 22 #[.pointer hp, .agg #[.int .i64 6, .int .u64 n, .string nm, .slice P lp cp, .int .i64 al, .slice R lr cr, .int .i64 tg]] w fun e w' => e = .returned (.int .i64 1) ∧ Below w.heap.size w w' := by
  have HFD := Lib.hid hfd
  clear hfd
  go_enter Try.func22, Try.ntmps22
  go_wp2
  obtain ⟨N, hN⟩ : ∃ N, w.heap.size = N := ⟨_, rfl⟩
  have HN := Lib.hid hN
  obtain ⟨W2, hW2⟩ : ∃ W2, ((w.alloc (.cells #[.int .i64 6, .int .u64 n, .string nm, .slice P lp cp, .int .i64 al, .slice R lr cr, .int .i64 tg] 34)).alloc (.cells #[.int .i64 6, .int .u64 n, .string nm, .slice P lp cp, .int .i64 al, .slice R lr cr, .int .i64 tg] 34)) = W2 := ⟨_, rfl⟩
  have HQ : Hid (Is W2 N 34 #[.int .i64 6, .int .u64 n, .string nm, .slice P lp cp, .int .i64 al, .slice R lr cr, .int .i64 tg] ∧ Is W2 (N + 1) 34 #[.int .i64 6, .int .u64 n, .string nm, .slice P lp cp, .int .i64 al, .slice R lr cr, .int .i64 tg] ∧ Below N w W2) := by
    subst hN
    rw [← hW2]
    refine ⟨(Is.made w _ _).alloc _, ?_, ((Below.refl _ w).alloc (Nat.le_refl _) _).alloc (by simp) _⟩
    have := Is.made (w.alloc (.cells #[.int .i64 6, .int .u64 n, .string nm, .slice P lp cp, .int .i64 al, .slice R lr cr, .int .i64 tg] 34)) 34 #[.int .i64 6, .int .u64 n, .string nm, .slice P lp cp, .int .i64 al, .slice R lr cr, .int .i64 tg]
    simp only [size_al] at this
    exact this
  rw [hW2, hN]
  clear hW2 hN
  go_loopw [5] (fun s wr => s = .slice (some ⟨N + 1, 0, none⟩) 1 1 ∧ Hid (Is wr N 34 #[.int .i64 6, .int .u64 n, .string nm, .slice P lp cp, .int .i64 al, .slice R lr cr, .int .i64 tg] ∧ Is wr (N + 1) 34 #[.int .i64 6, .int .u64 n, .string nm, .slice P lp cp, .int .i64 al, .slice R lr cr, .int .i64 tg] ∧ Below N w wr)) (fun _ _ => 0)
  case atStart => exact ⟨rfl, HQ⟩
  case round =>
    obtain ⟨rfl, HJ⟩ := hrel
    · have k0 := HJ.out.2.1.at_ 0
      have k1 := HJ.out.2.1.at_ 1
      have k2 := HJ.out.2.1.at_ 2
      have k3 := HJ.out.2.1.at_ 3
      have k4 := HJ.out.2.1.at_ 4
      have k5 := HJ.out.2.1.at_ 5
      have k6 := HJ.out.2.1.at_ 6
      have m0 := HJ.out.1.at_ 0
      have m1 := HJ.out.1.at_ 1
      have m2 := HJ.out.1.at_ 2
      have m3 := HJ.out.1.at_ 3
      have m4 := HJ.out.1.at_ 4
      have m5 := HJ.out.1.at_ 5
      have m6 := HJ.out.1.at_ 6
      have mf : ∀ i, wr.frozen? ⟨N, i, none⟩ = false := fun i => HJ.out.1.free i
      simp at k0 k1 k2 k3 k4 k5 k6 m0 m1 m2 m3 m4 m5 m6
      go_wp2_with fail
      go_region_law (fail)
      all_goals
        have B8 : Hid (Below N w (((((((wr.setCell ⟨N, 0, none⟩ (.int .i64 6)).setCell ⟨N, 1, none⟩ (.int .u64 n)).setCell ⟨N, 2, none⟩ (.string nm)).setCell ⟨N, 3, none⟩ (.slice P lp cp)).setCell ⟨N, 4, none⟩ (.int .i64 al)).setCell ⟨N, 5, none⟩ (.slice R lr cr)).setCell ⟨N, 6, none⟩ (.int .i64 tg)).drew) := ((((((((HJ.out.2.2.setCell (Nat.le_refl N) _).setCell (Nat.le_refl N) _).setCell (Nat.le_refl N) _).setCell (Nat.le_refl N) _).setCell (Nat.le_refl N) _).setCell (Nat.le_refl N) _).setCell (Nat.le_refl N) _).drew)
        go_wp2_with fail
        refine (HFD.out _ (by rw [HN.out]; exact B8.out)).mono ?_
        rintro e w5 ⟨rfl, rfl⟩
        go_wp2
        go_ret
        exact ⟨rfl, by rw [HN.out]; exact B8.out⟩
end Hp
end Go.Proofs.Ytbhjdpaicfnfcaa
