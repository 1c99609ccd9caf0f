/- The walks of layer 3's PrintType at one type: the type's parts. -/
import Derived.Test.YthainjaefijidaaTreeQ
namespace Go.Proofs.Ythainjaefijidaa
open Go.RowKit Go.Deep
namespace Tr
theorem row_made (W : World) (t : TypeId) (xs : List Value) : RowAt (W.alloc (.cells xs.toArray t)) (some ⟨W.heap.size, 0, none⟩) xs := fun _ => by
  refine ⟨_, _, rfl, by simp, fun i v hv => ?_⟩
  rw [Nat.zero_add, (Is.made W t xs.toArray).at_]
  simpa using hv
theorem put_lit {W : World} {c B : Nat} {v : Value} {L : List ByteArray} (N : List ByteArray) (hA : Tx W c B v L) (h0 : 0 < N.length) (hbig : L.length + N.length ≤ 1000) :
    Calls Try.prog 19 #[.pointer (some ⟨c, 0, none⟩), .slice (some ⟨W.heap.size, 0, none⟩) N.length N.length] (W.alloc (.cells (strsC N).toArray 9)) fun e W' => e = .returned (.tuple #[]) ∧ ∃ v', Tk c B W v W' v' (L ++ N) :=
  (put_any (hA.alloc _) W.heap.size N.length (row_made W _ _) h0 hbig).mono fun _ _ ⟨he, v', hk⟩ => ⟨he, v', hk.ofAlloc⟩
theorem Is_ne {w : World} {b b' : Nat} {t t' : TypeId} {cs cs' : Array Value} (h : Is w b t cs) (h' : Is w b' t' cs') (hn : t ≠ t') : b ≠ b' := by
  rintro rfl
  unfold Is at h h'
  rw [h] at h'
  injection h' with h'
  injection h' with _ e
  exact hn e
theorem put1 {W : World} {c B : Nat} {v : Value} {L : List ByteArray} (s : ByteArray) (b : Nat) (hb : W.heap.size = b) (hA : Tx W c B v L) (hbig : L.length ≤ 900) :
    Calls Try.prog 19 #[.pointer (some ⟨c, 0, none⟩), .slice (some ⟨b, 0, none⟩) 1 1] (W.alloc (.cells #[.string s] 9)) fun e W' => e = .returned (.tuple #[]) ∧ ∃ v', Tk c B W v W' v' (L ++ [s]) := by
  subst hb
  exact put_lit [s] hA (Nat.succ_pos 0) (by show L.length + 1 ≤ 1000; omega)
theorem put2 {W : World} {c B : Nat} {v : Value} {L : List ByteArray} (s t : ByteArray) (b : Nat) (hb : W.heap.size = b) (hA : Tx W c B v L) (hbig : L.length ≤ 900) :
    Calls Try.prog 19 #[.pointer (some ⟨c, 0, none⟩), .slice (some ⟨b, 0, none⟩) 2 2] (W.alloc (.cells #[.string s, .string t] 9)) fun e W' => e = .returned (.tuple #[]) ∧ ∃ v', Tk c B W v W' v' (L ++ [s, t]) := by
  subst hb
  exact put_lit [s, t] hA (Nat.succ_pos 1) (by show L.length + 2 ≤ 1000; omega)
theorem maybe_a {W : World} {c B : Nat} {v : Value} {L : List ByteArray} (hA : Tx W c B v L) (hbig : L.length ≤ 100) :
    Calls Try.prog 22 #[.pointer (some ⟨c, 0, none⟩), .string ⟨#[39, 97]⟩] W fun e W' => e = .returned (.tuple #[]) ∧ ∃ v', Tk c B W v W' v' (L ++ [⟨#[39, 97]⟩]) := by
  have HP := Lib.hid (put1 ⟨#[39, 97]⟩ W.heap.size rfl hA (by omega))
  clear hA
  go_enter Try.func22, Try.ntmps22
  go_wp2_with fail
  refine HP.out.mono ?_
  rintro e W1 ⟨rfl, v1, k1⟩
  have K1 := Lib.hid k1
  clear k1
  go_wp2
  go_end0
  exact ⟨rfl, v1, K1.out⟩
theorem typ_int {W : World} {c B : Nat} {v : Value} {L : List ByteArray} (hA : Tx W c B v L) (hbig : L.length ≤ 100) :
    Calls Try.prog 17 #[.pointer (some ⟨c, 0, none⟩), .agg #[.int .i64 1, .string ⟨#[]⟩, .string ⟨#[]⟩, .bool false, .slice none 0 0, .slice none 0 0, .int .i64 0, .int .i64 0]] W fun e W' => e = .returned (.tuple #[]) ∧ ∃ v', Tk c B W v W' v' (L ++ [⟨#[105, 110, 116]⟩]) := by
  have HP := Lib.hid (put1 ⟨#[105, 110, 116]⟩ (W.heap.size + 1) (by simp) (hA.alloc (.cells #[.int .i64 1, .string ⟨#[]⟩, .string ⟨#[]⟩, .bool false, .slice none 0 0, .slice none 0 0, .int .i64 0, .int .i64 0] 43)) (by omega))
  clear hA
  go_enter Try.func17, Try.ntmps17
  go_wp2_with fail
  refine HP.out.mono ?_
  rintro e W1 ⟨rfl, v1, k1⟩
  have K1 := Lib.hid k1
  clear k1
  go_wp2
  go_end0
  exact ⟨rfl, v1, K1.out.ofAlloc⟩
def One (c B : Nat) (W : World) (v : Value) (L' : List ByteArray) (k : Nat) (wr : World) : Prop := (k = 0 ∧ wr = W) ∨ (k = 1 ∧ ∃ v1, Tk c B W v wr v1 L')
set_option maxHeartbeats 1000000 in
theorem list_one {W : World} {c B g : Nat} {v sep : Value} {L M : List ByteArray} {a0 : Int} {a1 a2 : ByteArray} {a3 : Bool} {A4 A5 : Option Addr} {l4 c4 l5 c5 : Nat} {a6 a7 : Int}
    (hI : Is W g 43 #[.int .i64 a0, .string a1, .string a2, .bool a3, .slice A4 l4 c4, .slice A5 l5 c5, .int .i64 a6, .int .i64 a7])
    (hT : Calls Try.prog 17 #[.pointer (some ⟨c, 0, none⟩), .agg #[.int .i64 a0, .string a1, .string a2, .bool a3, .slice A4 l4 c4, .slice A5 l5 c5, .int .i64 a6, .int .i64 a7]] (W.alloc (.cells #[.int .i64 a0, .string a1, .string a2, .bool a3, .slice A4 l4 c4, .slice A5 l5 c5, .int .i64 a6, .int .i64 a7] 43)) fun e W' =>
      e = .returned (.tuple #[]) ∧ ∃ v', Tk c B (W.alloc (.cells #[.int .i64 a0, .string a1, .string a2, .bool a3, .slice A4 l4 c4, .slice A5 l5 c5, .int .i64 a6, .int .i64 a7] 43)) v W' v' (L ++ M)) :
    Calls Try.prog 21 #[.pointer (some ⟨c, 0, none⟩), .slice (some ⟨g, 0, none⟩) 1 1, (.func (.func 17) #[.pointer (some ⟨c, 0, none⟩)] #[]), sep] W fun e W' => e = .returned (.tuple #[]) ∧ ∃ v', Tk c B W v W' v' (L ++ M) := by
  have HI := Lib.hid hI
  have HT := Lib.hid hT
  clear hI hT
  go_enter Try.func21, Try.ntmps21
  go_wp2
  go_loopw [12] (fun i wr => ∃ k : Nat, k ≤ 1 ∧ i = .int .i64 k ∧ Hid (One c B W v (L ++ M) k wr)) (fun i _ => 1 - (intOf i).toNat)
  case atStart => exact ⟨0, Nat.zero_le _, rfl, .inl ⟨rfl, rfl⟩⟩
  case round =>
    obtain ⟨k, hk, rfl, HK⟩ := hrel
    rcases HK.out with ⟨rfl, rfl⟩ | ⟨rfl, v1, hk1⟩
    · have c0 := HI.out.at_ 0
      have c1 := HI.out.at_ 1
      have c2 := HI.out.at_ 2
      have c3 := HI.out.at_ 3
      have c4 := HI.out.at_ 4
      have c5 := HI.out.at_ 5
      have c6 := HI.out.at_ 6
      have c7 := HI.out.at_ 7
      simp only [List.getElem?_toArray, List.getElem?_cons_zero, List.getElem?_cons_succ] at c0 c1 c2 c3 c4 c5 c6 c7
      go_wp2_with fail
      refine HT.out.mono ?_
      rintro e W1 ⟨rfl, v1, k1⟩
      have HR : Hid (One c B wr v (L ++ M) 1 W1) := .inr ⟨rfl, v1, k1.ofAlloc⟩
      clear k1
      go_wp2
      go_roundw
      case rel => exact ⟨1, by omega, by go_num, HR⟩
      case measure => simp [intOf]
    · have HF := Lib.hid hk1
      clear hk1
      go_wp2
      go_end0
      exact ⟨rfl, v1, HF.out⟩
theorem row_ne {W : World} {c B : Nat} {v : Value} {L : List ByteArray} (hA : Tx W c B v L) {b : Nat} (hb : W.heap.size ≤ b) : v.ownBlock ≠ some b := fun e => by
  have := (hA.own.lt _ e).2
  omega
theorem Tx.cLt {W : World} {c B : Nat} {v : Value} {L : List ByteArray} (hA : Tx W c B v L) : c < W.heap.size := by have := hA.lt; have := hA.le; omega
set_option maxHeartbeats 1000000 in
theorem typ_box {W : World} {c B g : Nat} {v : Value} {L : List ByteArray} (hA : Tx W c B v L) (hbig : L.length ≤ 50) (hI : Is W g 43 #[.int .i64 1, .string ⟨#[]⟩, .string ⟨#[]⟩, .bool false, .slice none 0 0, .slice none 0 0, .int .i64 0, .int .i64 0]) (hg : v.ownBlock ≠ some g) :
    Calls Try.prog 17 #[.pointer (some ⟨c, 0, none⟩), .agg #[.int .i64 6, .string ⟨#[]⟩, .string ⟨#[]⟩, .bool false, .slice none 0 0, .slice (some ⟨g, 0, none⟩) 1 1, .int .i64 0, .int .i64 0]] W fun e W' => e = .returned (.tuple #[]) ∧ ∃ v', Tk c B W v W' v' (L ++ [⟨#[66, 111, 120]⟩, ⟨#[60]⟩] ++ [⟨#[105, 110, 116]⟩] ++ [⟨#[62]⟩]) := by
  have hgc : g ≠ c := Is_ne hI hA.cell (by decide)
  have HP := Lib.hid (put2 ⟨#[66, 111, 120]⟩ ⟨#[60]⟩ (W.heap.size + 1) (by simp) (hA.alloc (.cells #[.int .i64 6, .string ⟨#[]⟩, .string ⟨#[]⟩, .bool false, .slice none 0 0, .slice (some ⟨g, 0, none⟩) 1 1, .int .i64 0, .int .i64 0] 43)) (by omega))
  have HX := Lib.hid (Is.made W 43 #[.int .i64 6, .string ⟨#[]⟩, .string ⟨#[]⟩, .bool false, .slice none 0 0, .slice (some ⟨g, 0, none⟩) 1 1, .int .i64 0, .int .i64 0])
  have HI := Lib.hid (hI.alloc (.cells #[.int .i64 6, .string ⟨#[]⟩, .string ⟨#[]⟩, .bool false, .slice none 0 0, .slice (some ⟨g, 0, none⟩) 1 1, .int .i64 0, .int .i64 0] 43))
  have HA := Lib.hid (hA.alloc (.cells #[.int .i64 6, .string ⟨#[]⟩, .string ⟨#[]⟩, .bool false, .slice none 0 0, .slice (some ⟨g, 0, none⟩) 1 1, .int .i64 0, .int .i64 0] 43))
  have HG := Lib.hid hg
  have HN := Lib.hid (row_ne hA (Nat.le_refl _))
  have hcW := hA.cLt
  clear hA hI hg
  go_enter Try.func17, Try.ntmps17
  go_wp2_with fail
  refine HP.out.mono ?_
  rintro e W1 ⟨rfl, v1, k1⟩
  have X1 := Lib.hid (k1.is HX.out (by omega) HN.out)
  have I1 := Lib.hid (k1.is HI.out hgc HG.out)
  have G1 := Lib.hid (k1.rowne HI.out.lt HG.out)
  have z5 := X1.out.at_ 5
  simp only [List.getElem?_toArray, List.getElem?_cons_zero, List.getElem?_cons_succ] at z5
  have K1 := Lib.hid k1
  clear k1
  have HT := Lib.hid (list_one (W := W1.alloc (.cells #[.string ⟨#[44]⟩] 9)) (sep := .slice (some ⟨W1.heap.size, 0, none⟩) 1 1) (I1.out.alloc _) (typ_int (((K1.out.acc.alloc _)).alloc _) (by simp; omega)))
  go_wp2_with fail
  refine HT.out.mono ?_
  rintro e W2 ⟨rfl, v2, k2⟩
  have K2 := Lib.hid (K1.out.trans k2.ofAlloc)
  clear k2 z5
  have HQ := Lib.hid (put1 ⟨#[62]⟩ W2.heap.size rfl K2.out.acc (by simp; omega))
  go_wp2_with fail
  refine HQ.out.mono ?_
  rintro e W3 ⟨rfl, v3, k3⟩
  have K3 := Lib.hid (K2.out.trans k3)
  clear k3
  go_wp2
  go_end0
  exact ⟨rfl, v3, by simpa using K3.out.ofAlloc⟩
set_option maxHeartbeats 1000000 in
theorem typ_ref {W : World} {c B g g2 : Nat} {v : Value} {L : List ByteArray} (hA : Tx W c B v L) (hbig : L.length ≤ 20) (hI : Is W g 43 #[.int .i64 1, .string ⟨#[]⟩, .string ⟨#[]⟩, .bool false, .slice none 0 0, .slice none 0 0, .int .i64 0, .int .i64 0]) (hg : v.ownBlock ≠ some g) (hI2 : Is W g2 43 #[.int .i64 6, .string ⟨#[]⟩, .string ⟨#[]⟩, .bool false, .slice none 0 0, .slice (some ⟨g, 0, none⟩) 1 1, .int .i64 0, .int .i64 0]) (hg2 : v.ownBlock ≠ some g2) :
    Calls Try.prog 17 #[.pointer (some ⟨c, 0, none⟩), .agg #[.int .i64 7, .string ⟨#[]⟩, .string ⟨#[39, 97]⟩, .bool true, .slice none 0 0, .slice (some ⟨g2, 0, none⟩) 1 1, .int .i64 0, .int .i64 0]] W fun e W' => e = .returned (.tuple #[]) ∧ ∃ v', Tk c B W v W' v' (L ++ [⟨#[38]⟩] ++ [⟨#[39, 97]⟩] ++ [⟨#[109, 117, 116]⟩] ++ [⟨#[66, 111, 120]⟩, ⟨#[60]⟩, ⟨#[105, 110, 116]⟩, ⟨#[62]⟩]) := by
  have hgc : g ≠ c := Is_ne hI hA.cell (by decide)
  have hgc2 : g2 ≠ c := Is_ne hI2 hA.cell (by decide)
  have HP := Lib.hid (put1 ⟨#[38]⟩ (W.heap.size + 1) (by simp) (hA.alloc (.cells #[.int .i64 7, .string ⟨#[]⟩, .string ⟨#[39, 97]⟩, .bool true, .slice none 0 0, .slice (some ⟨g2, 0, none⟩) 1 1, .int .i64 0, .int .i64 0] 43)) (by omega))
  have HX := Lib.hid (Is.made W 43 #[.int .i64 7, .string ⟨#[]⟩, .string ⟨#[39, 97]⟩, .bool true, .slice none 0 0, .slice (some ⟨g2, 0, none⟩) 1 1, .int .i64 0, .int .i64 0])
  have HI := Lib.hid (hI.alloc (.cells #[.int .i64 7, .string ⟨#[]⟩, .string ⟨#[39, 97]⟩, .bool true, .slice none 0 0, .slice (some ⟨g2, 0, none⟩) 1 1, .int .i64 0, .int .i64 0] 43))
  have HI2 := Lib.hid (hI2.alloc (.cells #[.int .i64 7, .string ⟨#[]⟩, .string ⟨#[39, 97]⟩, .bool true, .slice none 0 0, .slice (some ⟨g2, 0, none⟩) 1 1, .int .i64 0, .int .i64 0] 43))
  have HG := Lib.hid hg
  have HG2 := Lib.hid hg2
  have HN := Lib.hid (row_ne hA (Nat.le_refl _))
  have hcW := hA.cLt
  clear hA hI hg hI2 hg2
  go_enter Try.func17, Try.ntmps17
  go_wp2_with fail
  refine HP.out.mono ?_
  rintro e W1 ⟨rfl, v1, k1⟩
  have X1 := Lib.hid (k1.is HX.out (by omega) HN.out)
  have I1 := Lib.hid (k1.is HI.out hgc HG.out)
  have J1 := Lib.hid (k1.is HI2.out hgc2 HG2.out)
  have G1 := Lib.hid (k1.rowne HI.out.lt HG.out)
  have GG1 := Lib.hid (k1.rowne HI2.out.lt HG2.out)
  have N1 := Lib.hid (k1.rowne HX.out.lt HN.out)
  have z2 := X1.out.at_ 2
  simp only [List.getElem?_toArray, List.getElem?_cons_zero, List.getElem?_cons_succ] at z2
  have K1 := Lib.hid k1
  clear k1
  go_wp2_with fail
  refine (maybe_a K1.out.acc (by simp; omega)).mono ?_
  rintro e W2 ⟨rfl, v2, k2⟩
  have X2 := Lib.hid (k2.is X1.out (by omega) N1.out)
  have I2 := Lib.hid (k2.is I1.out hgc G1.out)
  have J2 := Lib.hid (k2.is J1.out hgc2 GG1.out)
  have G2 := Lib.hid (k2.rowne I1.out.lt G1.out)
  have GG2 := Lib.hid (k2.rowne J1.out.lt GG1.out)
  have N2 := Lib.hid (k2.rowne X1.out.lt N1.out)
  have z3 := X2.out.at_ 3
  simp only [List.getElem?_toArray, List.getElem?_cons_zero, List.getElem?_cons_succ] at z3
  have K2 := Lib.hid (K1.out.trans k2)
  clear k2 z2
  have HQ := Lib.hid (put1 ⟨#[109, 117, 116]⟩ W2.heap.size rfl K2.out.acc (by simp; omega))
  go_wp2_with fail
  refine HQ.out.mono ?_
  rintro e W3 ⟨rfl, v3, k3⟩
  have X3 := Lib.hid (k3.is X2.out (by omega) N2.out)
  have I3 := Lib.hid (k3.is I2.out hgc G2.out)
  have J3 := Lib.hid (k3.is J2.out hgc2 GG2.out)
  have G3 := Lib.hid (k3.rowne I2.out.lt G2.out)
  have z5 := X3.out.at_ 5
  simp only [List.getElem?_toArray, List.getElem?_cons_zero, List.getElem?_cons_succ] at z5
  have K3 := Lib.hid (K2.out.trans k3)
  clear k3 z3
  have HT := Lib.hid (list_one (W := W3.alloc (.cells #[.string ⟨#[44]⟩] 9)) (sep := .slice (some ⟨W3.heap.size, 0, none⟩) 1 1) (L := L ++ [⟨#[38]⟩] ++ [⟨#[39, 97]⟩] ++ [⟨#[109, 117, 116]⟩]) (M := [⟨#[66, 111, 120]⟩, ⟨#[60]⟩, ⟨#[105, 110, 116]⟩, ⟨#[62]⟩]) (J3.out.alloc _)
    ((typ_box (((K3.out.acc.alloc _)).alloc _) (by simp; omega) ((I3.out.alloc _).alloc _) G3.out).mono fun _ _ ⟨he, v', hk⟩ => ⟨he, v', by simpa using hk⟩))
  go_wp2_with fail
  refine HT.out.mono ?_
  rintro e W4 ⟨rfl, v4, k4⟩
  have K4 := Lib.hid (K3.out.trans k4.ofAlloc)
  clear k4 z5
  go_wp2
  go_end0
  exact ⟨rfl, v4, by simpa using K4.out.ofAlloc⟩
end Tr
end Go.Proofs.Ythainjaefijidaa
