/- The walks of layer 2's calls on texts: the reference's digits. -/
import Derived.Test.YtledjocmihcfnaaDoorNumR
namespace Go.Proofs.YtledjocmihcfnaaDoor
open Go.RowKit Fl

def hexD (d : Nat) : Nat := if d < 10 then d + 48 else d + 87
/-- The last k digits of a number, base 16. -/
def hexL : Nat → Nat → List UInt8
  | 0, _ => []
  | k + 1, a => hexL k (a / 16) ++ [UInt8.ofNat (hexD (a % 16))]
/-- A text of one byte. -/
def oneB (c : Int) : ByteArray := ⟨#[UInt8.ofNat c.toNat]⟩
@[go_sem] theorem oneB_size (c : Int) : (oneB c).size = 1 := rfl
theorem oneB_cons (c : Int) (l : List UInt8) : oneB c ++ ⟨l.toArray⟩ = ⟨(UInt8.ofNat c.toNat :: l).toArray⟩ := by
  have := ByteArray.mk_append_mk [UInt8.ofNat c.toNat] l
  exact this
theorem vstr {a b : ByteArray} (h : a = b) : Value.string a = .string b := by rw [h]
theorem rstr {a b : ByteArray} (h : a = b) : Ending.returned (.string a) = .returned (.string b) := by rw [h]
theorem byteStr (c : Int) (h0 : 0 ≤ c) (h1 : c ≤ 255) (wr : World) :
    (convert 49 9 (.slice (some ⟨wr.heap.size, 0, none⟩) 1 1)).run Tryd.prog (wr.alloc (.cells #[.int .u8 c] 5)) = .ok (.string (oneB c)) (wr.alloc (.cells #[.int .u8 c] 5)) := by
  have h := run_convert_bytes_back (P := Tryd.prog) (wr.alloc (.cells #[.int .u8 c] 5)) 49 9 5 ⟨wr.heap.size, 0, none⟩ 1 [UInt8.ofNat c.toNat] Tryd.underlying49 Tryd.underlying5 Tryd.underlying9 (by
    intro j hj
    obtain rfl : j = 0 := by simpa using hj
    rw [show (⟨wr.heap.size, 0, none⟩ : Addr).add 0 = ⟨wr.heap.size, 0, none⟩ from rfl, World.cell?_alloc_mark]
    simp
    omega)
  exact h
theorem hex_step (k v a : Nat) (l : List UInt8) (h : hexL 16 a = hexL (16 - k) v ++ l ∧ l.length = k) (hk : k < 16) (c : Int) (hc : c = hexD (v % 16)) :
    hexL 16 a = hexL (16 - (k + 1)) (v / 16) ++ (UInt8.ofNat c.toNat :: l) ∧ (UInt8.ofNat c.toNat :: l).length = k + 1 := by
  obtain ⟨h1, h2⟩ := h
  rw [show 16 - k = (16 - (k + 1)) + 1 from by omega] at h1
  refine ⟨?_, by simp [h2]⟩
  rw [h1, hexL, hc]
  simp
theorem rhex_any (a : Nat) (w : World) (h : a < 18446744073709551616) :
    Calls Tryd.prog 42 #[.int .u64 a] w fun e w' => e = .returned (.string ⟨(hexL 16 a).toArray⟩) ∧ Below w.heap.size w w' := by
  go_enter Tryd.func42, Tryd.ntmps42
  go_wp2
  go_loopw [0, 3, 4] (fun u s i wr => ∃ k v : Nat, k ≤ 16 ∧ v < 18446744073709551616 ∧ i = .int .i64 k ∧ u = .int .u64 v ∧ ∃ l : List UInt8, s = .string ⟨l.toArray⟩ ∧ l.length ≤ 16 ∧ Hid (hexL 16 a = hexL (16 - k) v ++ l ∧ l.length = k) ∧ Below w.heap.size w wr) (fun _ _ i _ => 16 - (intOf i).toNat)
  case atStart => exact ⟨0, a, by omega, h, rfl, rfl, [], rfl, by simp, ⟨by simp, rfl⟩, Below.refl _ _⟩
  case round =>
    obtain ⟨k, v, hk, hu, rfl, rfl, l, rfl, hll, HL, hb⟩ := hrel
    by_cases hlt : k < 16
    · by_cases hd : v % 16 < 10
      · have hcv := fun wr => byteStr ((v : Int) % 16 + 48) (by omega) (by omega) wr
        go_wp2
        go_roundw
        case rel =>
          have hs := hex_step k v a l HL.out hlt ((v : Int) % 16 + 48) (by unfold hexD; rw [if_pos hd]; omega)
          exact ⟨k + 1, v / 16, by omega, by omega, by go_num, by go_num, _, vstr (oneB_cons _ _), by have := hs.2; omega, hs, hb.alloc hb.size _⟩
        case measure => simp [intOf]; omega
      · have hcv := fun wr => byteStr ((v : Int) % 16 + 87) (by omega) (by omega) wr
        go_wp2
        go_roundw
        case rel =>
          have hs := hex_step k v a l HL.out hlt ((v : Int) % 16 + 87) (by unfold hexD; rw [if_neg hd]; omega)
          exact ⟨k + 1, v / 16, by omega, by omega, by go_num, by go_num, _, vstr (oneB_cons _ _), by have := hs.2; omega, hs, hb.alloc hb.size _⟩
        case measure => simp [intOf]; omega
    · go_wp2
      go_ret
      refine ⟨rstr ?_, hb⟩
      obtain ⟨h1, h2⟩ := HL.out
      rw [show 16 - k = 0 from by omega] at h1
      rw [h1]; rfl

/-! ### Decimal digits -/
theorem dec_step (v u : Nat) (l : List UInt8) (h : Lib.decDigits u = Lib.decDigits v ++ l) (hv : 10 ≤ v) (c : Int) (hc : c = (v : Int) % 10 + 48) :
    Lib.decDigits u = Lib.decDigits (v / 10) ++ (UInt8.ofNat c.toNat :: l) := by
  rw [h]
  conv => lhs; rw [Lib.decDigits, dif_neg (by omega)]
  rw [hc, show ((v : Int) % 10 + 48).toNat = 48 + v % 10 from by omega]
  simp
theorem dec_last (v u : Nat) (l : List UInt8) (h : Lib.decDigits u = Lib.decDigits v ++ l) (hv : v < 10) (c : Int) (hc : c = (v : Int) + 48) :
    Lib.decDigits u = UInt8.ofNat c.toNat :: l := by
  rw [h, Lib.decDigits, dif_pos hv, hc, show ((v : Int) + 48).toNat = 48 + v from by omega]
  rfl
theorem dec_len (v u : Nat) (l : List UInt8) (h : Lib.decDigits u = Lib.decDigits v ++ l) (hu : u < 18446744073709551616) : l.length ≤ 100 := by
  have h1 : (Lib.decDigits u).length ≤ 64 := by
    have key : ∀ k u, u < 2 ^ k → (Lib.decDigits u).length ≤ k + 1 := by
      intro k
      induction k with
      | zero => intro u hu; rw [Lib.decDigits, dif_pos (by omega)]; simp
      | succ k ih =>
        intro u hu
        rw [Lib.decDigits]
        split
        · simp
        · have := ih (u / 10) (by rw [Nat.pow_succ] at hu; omega)
          simp; omega
    have h2 := key 63
    by_cases hc : u < 2 ^ 63
    · exact h2 u hc
    · rw [Lib.decDigits, dif_neg (by omega)]
      have := key 61 (u / 10) (by omega)
      simp; omega
  have := congrArg List.length h
  simp at this
  omega

theorem rdec_pos (u : Nat) (w : World) (h1 : u ≤ 9223372036854775807) :
    Calls Tryd.prog 40 #[.int .i64 ((u : Int))] w fun e w' => e = .returned (.string ⟨(Lib.decDigits u).toArray⟩) ∧ Below w.heap.size w w' := by
  have hus : u < 18446744073709551616 := by omega
  go_enter Tryd.func40, Tryd.ntmps40
  go_wp2_with fail
  refine (half_pos u _ (by omega) (by omega)).mono ?_
  rintro e w' ⟨rfl, rfl⟩
  go_wp2
  go_loopw [4, 5] (fun f s wr => ∃ v : Nat, v < 18446744073709551616 ∧ f = .int .u64 v ∧ ∃ l : List UInt8, s = .string ⟨l.toArray⟩ ∧ l.length ≤ 100 ∧ Hid (Lib.decDigits u = Lib.decDigits v ++ l) ∧ Below w.heap.size w wr) (fun f _ _ => (intOf f).toNat)
  case atStart => exact ⟨u, hus, by first | rfl | simp, [], rfl, by simp, (by simp : Lib.decDigits u = Lib.decDigits u ++ []), Below.refl _ _⟩
  case round =>
    obtain ⟨v, hu, rfl, l, rfl, hll, HL, hb⟩ := hrel
    by_cases hd : 10 ≤ v
    · have hcv := fun wr => byteStr ((v : Int) % 10 + 48) (by omega) (by omega) wr
      go_wp2
      go_roundw
      case rel =>
        have hs := dec_step v u l HL.out hd ((v : Int) % 10 + 48) rfl
        exact ⟨v / 10, by omega, by go_num, _, vstr (oneB_cons _ _), dec_len _ _ _ hs hus, hs, hb.alloc hb.size _⟩
      case measure => simp [intOf]; omega
    · have hcv := fun wr => byteStr ((v : Int) + 48) (by omega) (by omega) wr
      go_wp2
      go_ret
      have hs := dec_last v u l HL.out (by omega) ((v : Int) + 48) rfl
      refine ⟨rstr ?_, hb.alloc hb.size _⟩
      rw [oneB_cons, ← hs]

theorem rdec_neg (u : Nat) (w : World) (h0 : 0 < u) (h1 : u ≤ 9223372036854775808) :
    Calls Tryd.prog 40 #[.int .i64 (-(u : Int))] w fun e w' => e = .returned (.string ⟨(45 :: Lib.decDigits u).toArray⟩) ∧ Below w.heap.size w w' := by
  have hus : u < 18446744073709551616 := by omega
  go_enter Tryd.func40, Tryd.ntmps40
  go_wp2_with fail
  refine (half_neg' u _ (by omega) (by omega)).mono ?_
  rintro e w' ⟨rfl, rfl⟩
  go_wp2
  go_loopw [4, 5] (fun f s wr => ∃ v : Nat, v < 18446744073709551616 ∧ f = .int .u64 v ∧ ∃ l : List UInt8, s = .string ⟨l.toArray⟩ ∧ l.length ≤ 100 ∧ Hid (Lib.decDigits u = Lib.decDigits v ++ l) ∧ Below w.heap.size w wr) (fun f _ _ => (intOf f).toNat)
  case atStart => exact ⟨u, hus, by first | rfl | simp, [], rfl, by simp, (by simp : Lib.decDigits u = Lib.decDigits u ++ []), Below.refl _ _⟩
  case round =>
    obtain ⟨v, hu, rfl, l, rfl, hll, HL, hb⟩ := hrel
    by_cases hd : 10 ≤ v
    · have hcv := fun wr => byteStr ((v : Int) % 10 + 48) (by omega) (by omega) wr
      go_wp2
      go_roundw
      case rel =>
        have hs := dec_step v u l HL.out hd ((v : Int) % 10 + 48) rfl
        exact ⟨v / 10, by omega, by go_num, _, vstr (oneB_cons _ _), dec_len _ _ _ hs hus, hs, hb.alloc hb.size _⟩
      case measure => simp [intOf]; omega
    · have hcv := fun wr => byteStr ((v : Int) + 48) (by omega) (by omega) wr
      go_wp2
      go_ret
      have hs := dec_last v u l HL.out (by omega) ((v : Int) + 48) rfl
      refine ⟨rstr ?_, hb.alloc hb.size _⟩
      rw [oneB_cons, ← hs]; exact ByteArray.mk_append_mk [45] (Lib.decDigits u)

theorem rdec_any (n : Int) (h0 : -9223372036854775808 ≤ n) (h1 : n ≤ 9223372036854775807) (w : World) :
    Calls Tryd.prog 40 #[.int .i64 n] w fun e w' => e = .returned (.string ⟨(Lib.itoa n).toArray⟩) ∧ Below w.heap.size w w' := by
  by_cases hn : n < 0
  · have h := rdec_neg n.natAbs w (by omega) (by omega)
    rw [show -((n.natAbs : Nat) : Int) = n from by omega] at h
    unfold Lib.itoa
    rw [if_pos hn]
    exact h
  · have h := rdec_pos n.toNat w (by omega)
    rw [show ((n.toNat : Nat) : Int) = n from by omega] at h
    unfold Lib.itoa
    rw [if_neg hn]
    exact h
end Go.Proofs.YtledjocmihcfnaaDoor
