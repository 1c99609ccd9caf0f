/- What every statement of layer 2 reckons first. -/
import Derived.Test.YtledjocmihcfnaaDoorNumS
import Derived.Test.YtledjocmihcfnaaDoorNumD
import Derived.Test.YtledjocmihcfnaaDoorShelf
namespace Go.Proofs.YtledjocmihcfnaaDoor
open Go.RowKit Fl

theorem below_grow (w : World) (k : Nat) (os : Array Obj) : Below w.heap.size w (Go.Sort.grow (w.drewN k) os) :=
  ⟨rfl, rfl, rfl, by simp [World.drewN], fun i hi => Go.Sort.heap_grow_old (w.drewN k) os hi⟩
theorem below_drew (w : World) : Below w.heap.size w w.drew := (Below.refl _ _).drew
theorem below_or {w w' : World} (h : w' = w ∨ w' = w.drew) : Below w.heap.size w w' := by
  rcases h with rfl | rfl
  · exact Below.refl _ _
  · exact below_drew w
theorem below_eq {w w' : World} (h : w = w') : Below w.heap.size w w' := by subst h; exact Below.refl _ _

/-- The table of the library's that decimal digits are reckoned by. -/
def Tab (w : World) : Prop := Lib.TabIs Tryd.prog w "internal/strconv.uint64pow10" .u64 Lib.pow10Tab
def gtab : Nat := 1
theorem gtab_named : Tryd.prog.globalNamed "internal/strconv.uint64pow10" = some gtab := by kernel_rfl
theorem Tab.below {w w' : World} {B : Nat} (h : Tab w) (hb : Below B w w') (hB : gtab < B) : Tab w' := var?_below hb gtab_named hB h

theorem ndec_any (n : Int) (h0 : -9223372036854775808 ≤ n) (h1 : n ≤ 9223372036854775807) (w : World) (ht : Tab w) :
    Calls Tryd.prog 39 #[.int .i64 n] w fun e w' => e = .returned (.string ⟨(Lib.itoa n).toArray⟩) ∧ Below w.heap.size w w' := by
  have HT := Lib.hid ht
  clear ht
  go_enter Tryd.func39, Tryd.ntmps39
  go_wp2_with fail
  refine (Go.Proofs.Tryd.strconv_FormatInt_10 n h0 h1 _ HT.out).mono ?_
  rintro e w' ⟨rfl, k, os, rfl⟩
  go_wp2
  go_ret
  exact ⟨rfl, below_grow w k os⟩
theorem big_fit : fit (4611686018427387904 * 2) = (0, false) := fit_out (by omega)
theorem small_fit : fit (7 - 9) = (-2, true) := fit_in (by omega)
theorem rmul_c (w : World) : Calls Tryd.prog 15 #[.int .i64 4611686018427387904, .int .i64 2] w fun e w' => e = .returned (.tuple #[.int .i64 0, .bool false]) ∧ w = w' := by
  have h := nmul_any 4611686018427387904 2 w (by omega) (by omega) (by omega) (by omega)
  rw [big_fit] at h
  exact h
theorem rsub_c (w : World) : Calls Tryd.prog 13 #[.int .i64 7, .int .i64 9] w fun e w' => e = .returned (.tuple #[.int .i64 (-2), .bool true]) ∧ w = w' := by
  have h := nsub_any 7 9 w (by omega) (by omega) (by omega) (by omega)
  rw [small_fit] at h
  exact h
theorem rkind_c (w : World) : Calls Tryd.prog 37 #[.int .u64 0] w fun e w' => e = .returned (.int .i64 4) ∧ w = w' := by
  have h := nkind_any 0 (by decide) w
  rw [show kindN 0 = 4 from by decide] at h
  exact h
theorem rkind_n (w : World) : Calls Tryd.prog 37 #[.int .u64 9221120237041090561] w fun e w' => e = .returned (.int .i64 0) ∧ w = w' := by
  have h := nkind_any nanN (by decide) w
  rw [show kindN nanN = 0 from by decide] at h
  exact h
theorem rdiv_c (w : World) : Calls Tryd.prog 27 #[.int .u64 0, .int .u64 0] w fun e w' => e = .returned (.int .u64 9221120237041090561) ∧ Below w.heap.size w w' := by
  have h := nfdiv_any 0 0 w
  rw [div_edge (a := 0) (b := 0) (.inr ⟨rfl, rfl⟩)] at h
  exact h.mono fun e w' ⟨h1, h2⟩ => ⟨h1, below_or h2⟩
theorem rdec_c (w : World) (ht : Tab w) : Calls Tryd.prog 39 #[.int .i64 (-10)] w fun e w' => e = .returned (.string ⟨#[45, 49, 48]⟩) ∧ Below w.heap.size w w' := by
  have h := ndec_any (-10) (by omega) (by omega) w ht
  rw [show Lib.itoa (-10) = [45, 49, 48] from by simp [Lib.itoa, Lib.decDigits]] at h
  exact h

theorem reckoned_any (w : World) (ht : Tab w) (hg : gtab < w.heap.size) : Calls Tryd.prog 10 #[] w fun e w' => e = .returned (.bool true) ∧ Below w.heap.size w w' := by
  have HT := Lib.hid ht
  have HG := Lib.hid hg
  clear ht hg
  go_enter Tryd.func10, Tryd.ntmps10
  go_wp2_with fail
  refine (rmul_c _).mono ?_
  rintro e w' ⟨rfl, rfl⟩
  go_wp2_with fail
  refine (rsub_c _).mono ?_
  rintro e w' ⟨rfl, rfl⟩
  go_wp2_with fail
  refine (rkind_c _).mono ?_
  rintro e w' ⟨rfl, rfl⟩
  go_wp2_with fail
  refine (rdiv_c _).mono ?_
  rintro e w1 ⟨rfl, b1⟩
  go_wp2_with fail
  refine (rkind_n _).mono ?_
  rintro e w' ⟨rfl, rfl⟩
  go_wp2_with fail
  refine (rdiv_c _).mono ?_
  rintro e w2 ⟨rfl, b2⟩
  go_wp2_with fail
  have t2 := (HT.out.below b1 HG.out).below b2 (Nat.lt_of_lt_of_le HG.out b1.size)
  refine (rdec_c _ t2).mono ?_
  rintro e w3 ⟨rfl, b3⟩
  go_wp2
  go_ret
  exact ⟨rfl, (b1.trans (b2.mono b1.size)).trans (b3.mono (Nat.le_trans b1.size b2.size))⟩
end Go.Proofs.YtledjocmihcfnaaDoor
