/- The walks of layer 2's calls on texts: the program's digits, base 16. -/
import Derived.Test.YtledjocmihcfnaaDoorNumX
import Derived.Deep.OwnRows
namespace Go.Proofs.YtledjocmihcfnaaDoor
open Go.RowKit Fl
theorem tz_any (w : World) (hc : w.cell? ⟨4, 15, none⟩ = some (.int .u8 4)) :
    Calls Tryd.prog 85 #[.int .u64 16] w fun e w' => e = .returned (.int .i64 4) ∧ w = w' := by
  have e1 : Go.bits .and .u64 16 18446744073709551600 = 16 := by decide
  have e0 : IntKind.u64.wrap (-16) = 18446744073709551600 := by decide
  have e2 : IntKind.u64.wrap (16 * 285870213051353865) = 4573923408821661840 := by decide
  go_enter Tryd.func85, Tryd.ntmps85
  go_wp2
  go_ret
  exact ⟨rfl, rfl⟩
theorem pow_any (w : World) :
    Calls Tryd.prog 84 #[.int .i64 16] w fun e w' => e = .returned (.bool true) ∧ w = w' := by
  have e1 : Go.bits .and .i64 16 15 = 0 := by decide
  go_enter Tryd.func84, Tryd.ntmps84
  go_wp2
  go_ret
  exact ⟨rfl, rfl⟩
def hexM (u : Nat) : List UInt8 :=
  if _h : u < 16 then [UInt8.ofNat (hexD u)] else hexM (u / 16) ++ [UInt8.ofNat (hexD (u % 16))]
termination_by u
decreasing_by omega
def digs : ByteArray := ByteArray.mk #[48, 49, 50, 51, 52, 53, 54, 55, 56, 57, 97, 98, 99, 100, 101, 102, 103, 104, 105, 106, 107, 108, 109, 110, 111, 112, 113, 114, 115, 116, 117, 118, 119, 120, 121, 122]
theorem digs_all : ∀ i : Fin 16, (digs[i.val]'(Nat.lt_trans i.isLt (by decide))).toNat = hexD i.val := by decide
theorem digs_at (i : Nat) (hi : i < 16) (h : i < digs.size) : (digs[i]'h).toNat = hexD i := digs_all ⟨i, hi⟩
theorem hex_byte (d : Nat) (h : d < 16) : (UInt8.ofNat (hexD d)).toNat = hexD d := by
  unfold hexD; split <;> simp <;> omega
/-- The row's cells from n on hold these bytes. -/
def RowB (l : List UInt8) (f : Nat → Value) (n : Nat) : Prop := ∀ j, j < l.length → f (n + j) = .int .u8 ((l.getD j 0).toNat : Nat)
theorem hexM_low {u : Nat} (h : u < 16) : hexM u = [UInt8.ofNat (hexD u)] := by rw [hexM, dif_pos h]
theorem hexM_step {u : Nat} (h : 16 ≤ u) : hexM u = hexM (u / 16) ++ [UInt8.ofNat (hexD (u % 16))] := by rw [hexM, dif_neg (by omega)]
/-- One digit more, ahead. -/
theorem rowB_cons {l : List UInt8} {f : Nat → Value} {k d : Nat} (hl : l.length = k) (hk : k ≤ 15) (hd : d < 16) (h : RowB l f (65 - k)) :
    RowB (UInt8.ofNat (hexD d) :: l) (fun j => if j = 65 - k - 1 then .int .u8 (hexD d : Nat) else f j) (65 - (k + 1)) := by
  intro j hj
  simp only
  cases j with
  | zero => rw [if_pos (by omega)]; simp [hex_byte d hd]
  | succ j =>
    rw [if_neg (by omega), show 65 - (k + 1) + (j + 1) = 65 - k + j from by omega, h j (by simpa using hj)]
    simp
theorem conv_row {w' : World} {N t k : Nat} {f : Nat → Value} {l : List UInt8} (hr : w'.rowIs N t 65 f) (hl : l.length = k) (hk : k ≤ 65) (hb : RowB l f (65 - k)) :
    (convert 49 9 (.slice (some ⟨N, 65 - k, none⟩) k k)).run Tryd.prog w' = .ok (.string ⟨l.toArray⟩) w' := by
  subst hl
  refine run_convert_bytes_back (P := Tryd.prog) _ 49 9 5 _ _ _ Tryd.underlying49 Tryd.underlying5 Tryd.underlying9 ?_
  intro j hj
  rw [Go.WideShapes.add_plain, hr.cell (by omega), hb j hj]
  simp [List.getD, List.getElem?_eq_getElem hj]
theorem room {v k a : Nat} (h : v * 16 ^ k ≤ a) (ha : a < 18446744073709551616) (hv : 16 ≤ v) : k ≤ 14 := by
  have h1 : 16 * 16 ^ k ≤ a := Nat.le_trans (Nat.mul_le_mul_right _ hv) h
  rw [← Nat.pow_succ'] at h1
  have h2 : 16 ^ (k + 1) < 16 ^ 16 := Nat.lt_of_le_of_lt h1 ha
  have := (Nat.pow_lt_pow_iff_right (a := 16) (by decide)).1 h2
  omega
theorem fb_any (a : Nat) (w : World) (h : a < 18446744073709551616) (hc : w.cell? ⟨4, 15, none⟩ = some (.int .u8 4)) :
    Calls Tryd.prog 75 #[.slice none 0 0, .int .u64 a, .int .i64 16, .bool false, .bool false] w fun e w' => e = .returned (.tuple #[.slice none 0 0, .string ⟨(hexM a).toArray⟩]) ∧ Below w.heap.size w w' := by
  have hg := World.block_lt_of_cell? _ _ hc
  go_enter Tryd.func75, Tryd.ntmps75
  go_wp2_with fail
  refine (pow_any _).mono ?_
  rintro e w' ⟨rfl, rfl⟩
  go_wp2_with fail
  refine (tz_any _ ?_).mono ?_
  · rw [World.cell?_alloc_lt _ _ _ hg]; exact hc
  rintro e w' ⟨rfl, rfl⟩
  go_wp2_with fail
  go_loopw [1, 13] (fun u i wr => ∃ k v : Nat, k ≤ 15 ∧ v < 18446744073709551616 ∧ i = .int .i64 (65 - k) ∧ u = .int .u64 v ∧ ∃ (f : Nat → Value) (l : List UInt8), wr.rowIs w.heap.size 80 65 f ∧ Hid (hexM a = hexM v ++ l ∧ l.length = k ∧ RowB l f (65 - k) ∧ v * 16 ^ k ≤ a) ∧ Below w.heap.size w wr) (fun u _ _ => (intOf u).toNat)
  case atStart =>
    have hz : Tryd.zeroCells80 = madeCells #[.int .u8 0] 65 := by kernel_rfl
    rw [hz]
    refine ⟨0, a, by omega, h, rfl, rfl, _, [], World.rowIs_made _ _ _ _, ⟨by simp, rfl, fun j hj => by simp at hj, by simp⟩, (Below.refl _ _).alloc (Nat.le_refl _) _⟩
  case round =>
    obtain ⟨k, v, hk, hu, rfl, rfl, f, l, hf, HL, hb⟩ := hrel
    have hcell := hf.cell (i := 65 - k - 1) (by omega)
    have hfr := hf.frozen (65 - k - 1)
    by_cases hd : 16 ≤ v
    · have hm : Go.bits .and .u64 (v : Int) 15 = ((v % 16 : Nat) : Int) := by
        have := u64_and_nat v 15 hu (by decide)
        rw [show 15 = 2 ^ 4 - 1 from rfl, Nat.and_two_pow_sub_one_eq_mod] at this
        exact this
      have hdg : ∀ h, (digs[v % 16]'h).toNat = hexD (v % 16) := fun h => digs_at (v % 16) (by omega) h
      unfold digs at hdg
      go_wp2_with fail
      go_roundw
      case rel =>
        obtain ⟨h1, h2, h3, h4⟩ := HL.out
        have hr := room h4 h hd
        refine ⟨k + 1, v / 16, by omega, by omega, by go_num, by go_num, _, _, hf.set (65 - k - 1) (.int .u8 (hexD (v % 16) : Nat)), ⟨?_, ?_, rowB_cons h2 hk (by omega) h3, ?_⟩, hb.setCell (Nat.le_refl _) _⟩
        · rw [h1, hexM_step hd]; simp
        · simp [h2]
        · rw [Nat.pow_succ, Nat.mul_comm (16 ^ k), ← Nat.mul_assoc]
          exact Nat.le_trans (Nat.mul_le_mul_right _ (Nat.div_mul_le_self v 16)) h4
      case measure => simp [intOf]; omega
    · have hsl : ∀ W, (Instr.sliceAt 80 (.pointer (some ⟨w.heap.size, 0, none⟩)) (some (.int .i64 (65 - (k : Int) - 1))) none none).run Tryd.prog W = .ok (.slice (some ⟨w.heap.size, 65 - k - 1, none⟩) (k + 1) (k + 1)) W := fun W => by
        rw [run_sliceAt_array_l (P := Tryd.prog) W 80 ⟨w.heap.size, 0, none⟩ (by kernel_rfl) .i64 (65 - (k : Int) - 1) (by omega) (by rw [show Tryd.prog.arrayLen 80 = 65 from by kernel_rfl]; omega)]
        go_simp
        omega
      have hdg : ∀ h, (digs[v]'h).toNat = hexD v := fun h => digs_at v (by omega) h
      unfold digs at hdg
      have hs := hf.set (65 - k - 1) (.int .u8 (hexD v : Nat))
      have hcv : (convert 49 9 (.slice (some ⟨w.heap.size, 65 - k - 1, none⟩) (k + 1) (k + 1))).run Tryd.prog (wr.setCell ⟨w.heap.size, 65 - k - 1, none⟩ (.int .u8 (hexD v : Nat))) = .ok (.string ⟨(hexM a).toArray⟩) (wr.setCell ⟨w.heap.size, 65 - k - 1, none⟩ (.int .u8 (hexD v : Nat))) := by
        obtain ⟨h1, h2, h3, h4⟩ := HL.out
        rw [h1, hexM_low (by omega)]
        have hr := rowB_cons (d := v) h2 hk (by omega) h3
        exact conv_row hs (l := UInt8.ofNat (hexD v) :: l) (k := k + 1) (by simp [h2]) (by omega) hr
      clear hs
      go_wp2
      go_ret2
      exact ⟨rfl, hb.setCell (Nat.le_refl _) _⟩

theorem hexM_len : ∀ (k a : Nat), a < 16 ^ (k + 1) → (hexM a).length ≤ k + 1 := by
  intro k
  induction k with
  | zero => intro a h; rw [hexM_low (by omega)]; simp
  | succ k ih =>
    intro a h
    by_cases hc : a < 16
    · rw [hexM_low hc]; simp
    · rw [hexM_step (by omega)]
      have := ih (a / 16) (by rw [Nat.div_lt_iff_lt_mul (by decide), ← Nat.pow_succ]; exact h)
      simp; omega
theorem hexL_zero : ∀ k, hexL k 0 = List.replicate k 48 := by
  intro k
  induction k with
  | zero => rfl
  | succ k ih => rw [hexL, Nat.zero_div, ih, List.replicate_succ']; rfl
theorem hexL_hexM : ∀ (k a : Nat), a < 16 ^ (k + 1) → hexL (k + 1) a = List.replicate (k + 1 - (hexM a).length) 48 ++ hexM a := by
  intro k
  induction k with
  | zero =>
    intro a h
    rw [hexM_low (by omega), hexL]
    rw [Nat.mod_eq_of_lt (by omega)]
    rfl
  | succ k ih =>
    intro a h
    rw [hexL]
    by_cases hc : a < 16
    · rw [hexM_low hc, Nat.div_eq_of_lt hc, Nat.mod_eq_of_lt hc, hexL_zero]
      rfl
    · have h1 : a / 16 < 16 ^ (k + 1) := by
        rw [Nat.div_lt_iff_lt_mul (by decide), ← Nat.pow_succ]; exact h
      rw [ih (a / 16) h1, hexM_step (u := a) (by omega)]
      simp
theorem hex_join {a : Nat} (h : a < 18446744073709551616) : hexL 16 a = List.replicate (16 - (hexM a).length) 48 ++ hexM a := hexL_hexM 15 a h
theorem fu_in (a : Nat) (w : World) (h : a < 18446744073709551616) (hc : w.cell? ⟨4, 15, none⟩ = some (.int .u8 4)) :
    Calls Tryd.prog 65 #[.int .u64 a, .int .i64 16] w fun e w' => e = .returned (.string ⟨(hexM a).toArray⟩) ∧ Below w.heap.size w w' := by
  go_enter Tryd.func65, Tryd.ntmps65
  go_wp2_with fail
  refine (fb_any a _ h hc).mono ?_
  rintro e w' ⟨rfl, hb⟩
  go_wp2
  go_ret
  exact ⟨rfl, hb⟩
theorem fu_any (a : Nat) (w : World) (h : a < 18446744073709551616) (hc : w.cell? ⟨4, 15, none⟩ = some (.int .u8 4)) :
    Calls Tryd.prog 60 #[.int .u64 a, .int .i64 16] w fun e w' => e = .returned (.string ⟨(hexM a).toArray⟩) ∧ Below w.heap.size w w' := by
  go_enter Tryd.func60, Tryd.ntmps60
  go_wp2_with fail
  refine (fu_in a _ h hc).mono ?_
  rintro e w' ⟨rfl, hb⟩
  go_wp2
  go_ret
  exact ⟨rfl, hb⟩
theorem rep_any (n : Int) (h0 : 0 ≤ n) (h1 : n ≤ 16) (w : World) :
    Calls Tryd.prog 61 #[.string ⟨#[48]⟩, .int .i64 n] w fun e w' => e = .returned (.string ⟨(List.replicate n.toNat 48).toArray⟩) ∧ Below w.heap.size w w' := by
  have h := Go.Proofs.Tryd.strings_Repeat ⟨#[48]⟩ n.toNat w (by omega) (by show 1 * n.toNat ≤ _; omega)
  rw [show ((n.toNat : Nat) : Int) = n from by omega] at h
  have e := Lib.repeatL_replicate 48 1 n.toNat
  rw [Nat.mul_one] at e
  rw [show (Lib.repeatL (ByteArray.data ⟨#[48]⟩).toList n.toNat) = List.replicate n.toNat 48 from e] at h
  exact h
theorem nhex_any (a : Nat) (w : World) (h : a < 18446744073709551616) (hc : w.cell? ⟨4, 15, none⟩ = some (.int .u8 4)) :
    Calls Tryd.prog 41 #[.int .u64 a] w fun e w' => e = .returned (.string ⟨(hexL 16 a).toArray⟩) ∧ Below w.heap.size w w' := by
  have hl := hexM_len 15 a h
  have HJ := Lib.hid (hex_join h)
  go_enter Tryd.func41, Tryd.ntmps41
  go_wp2_with fail
  refine (fu_any a _ h hc).mono ?_
  rintro e w1 ⟨rfl, b1⟩
  go_wp2_with fail
  refine (rep_any _ (by omega) (by omega) _).mono ?_
  rintro e w2 ⟨rfl, b2⟩
  go_wp2
  go_ret
  refine ⟨rstr ?_, b1.trans (b2.mono b1.size)⟩
  rw [HJ.out]
  have e := ByteArray.mk_append_mk (List.replicate (16 - (hexM a).length) 48) (hexM a)
  simpa using e
end Go.Proofs.YtledjocmihcfnaaDoor
