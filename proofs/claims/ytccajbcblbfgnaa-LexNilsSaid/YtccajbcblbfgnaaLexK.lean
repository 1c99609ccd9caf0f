/- The walks of layer 1's words. -/
import Derived.Test.YtccajbcblbfgnaaLexM
namespace Go.Proofs.Ytccajbcblbfgnaa
open Go.RowKit Lx
/-- The words that are no names. -/
def wordsL : List Bs := [[115, 116, 114, 117, 99, 116], [116, 114, 97, 105, 116], [105, 109, 112, 108], [102, 111, 114], [102, 110], [119, 104, 101, 114, 101], [108, 101, 116], [105, 102], [101, 108, 115, 101], [119, 104, 105, 108, 101], [114, 101, 116, 117, 114, 110], [97, 98, 111, 114, 116], [116, 114, 117, 101], [102, 97, 108, 115, 101], [109, 117, 116], [100, 121, 110], [105, 110, 116], [98, 111, 111, 108], [102, 54, 52], [115, 101, 108, 102], [66, 111, 120], [117, 110, 98, 111, 120], [99, 104, 111, 111, 115, 101], [110, 101, 119], [97, 115]]
def isWord (s : ByteArray) : Bool := wordsL.contains (bs s)
theorem ne_of {s : ByteArray} (h : isWord s = false) (k : Nat) (hk : k < wordsL.length) : (s.toList == wordsL[k]) = false := by
  rw [beq_eq_false_iff_ne, ByteArray.toList_eq]
  intro e
  have : isWord s = true := by
    unfold isWord bs
    rw [e, List.contains_iff_mem]
    exact List.getElem_mem hk
  rw [h] at this; cases this
theorem word_no (s : ByteArray) (h : isWord s = false) (w : World) : Calls Try.prog 15 #[.string s] w fun e w' => e = .returned (.bool false) ∧ w = w' := by
  have e0 : (s.toList == [115, 116, 114, 117, 99, 116]) = false := ne_of h 0 (by decide)
  have e1 : (s.toList == [116, 114, 97, 105, 116]) = false := ne_of h 1 (by decide)
  have e2 : (s.toList == [105, 109, 112, 108]) = false := ne_of h 2 (by decide)
  have e3 : (s.toList == [102, 111, 114]) = false := ne_of h 3 (by decide)
  have e4 : (s.toList == [102, 110]) = false := ne_of h 4 (by decide)
  have e5 : (s.toList == [119, 104, 101, 114, 101]) = false := ne_of h 5 (by decide)
  have e6 : (s.toList == [108, 101, 116]) = false := ne_of h 6 (by decide)
  have e7 : (s.toList == [105, 102]) = false := ne_of h 7 (by decide)
  have e8 : (s.toList == [101, 108, 115, 101]) = false := ne_of h 8 (by decide)
  have e9 : (s.toList == [119, 104, 105, 108, 101]) = false := ne_of h 9 (by decide)
  have e10 : (s.toList == [114, 101, 116, 117, 114, 110]) = false := ne_of h 10 (by decide)
  have e11 : (s.toList == [97, 98, 111, 114, 116]) = false := ne_of h 11 (by decide)
  have e12 : (s.toList == [116, 114, 117, 101]) = false := ne_of h 12 (by decide)
  have e13 : (s.toList == [102, 97, 108, 115, 101]) = false := ne_of h 13 (by decide)
  have e14 : (s.toList == [109, 117, 116]) = false := ne_of h 14 (by decide)
  have e15 : (s.toList == [100, 121, 110]) = false := ne_of h 15 (by decide)
  have e16 : (s.toList == [105, 110, 116]) = false := ne_of h 16 (by decide)
  have e17 : (s.toList == [98, 111, 111, 108]) = false := ne_of h 17 (by decide)
  have e18 : (s.toList == [102, 54, 52]) = false := ne_of h 18 (by decide)
  have e19 : (s.toList == [115, 101, 108, 102]) = false := ne_of h 19 (by decide)
  have e20 : (s.toList == [66, 111, 120]) = false := ne_of h 20 (by decide)
  have e21 : (s.toList == [117, 110, 98, 111, 120]) = false := ne_of h 21 (by decide)
  have e22 : (s.toList == [99, 104, 111, 111, 115, 101]) = false := ne_of h 22 (by decide)
  have e23 : (s.toList == [110, 101, 119]) = false := ne_of h 23 (by decide)
  have e24 : (s.toList == [97, 115]) = false := ne_of h 24 (by decide)
  clear h
  go_enter Try.func15, Try.ntmps15
  go_wp2
  go_ret
  exact ⟨rfl, rfl⟩
theorem word_yes (l : Bs) (h : l ∈ wordsL) (w : World) : Calls Try.prog 15 #[.string ⟨l.toArray⟩] w fun e w' => e = .returned (.bool true) ∧ w = w' := by
  simp only [wordsL, List.mem_cons, List.not_mem_nil, or_false] at h
  rcases h with rfl | rfl | rfl | rfl | rfl | rfl | rfl | rfl | rfl | rfl | rfl | rfl | rfl | rfl | rfl | rfl | rfl | rfl | rfl | rfl | rfl | rfl | rfl | rfl | rfl
  all_goals
    go_enter Try.func15, Try.ntmps15
    go_wp2
    go_ret
    exact ⟨rfl, rfl⟩
theorem word_any (s : ByteArray) (w : World) : Calls Try.prog 15 #[.string s] w fun e w' => e = .returned (.bool (isWord s)) ∧ w = w' := by
  by_cases h : isWord s = true
  · rw [h]
    unfold isWord at h
    rw [List.contains_iff_mem] at h
    exact word_yes (bs s) h w
  · have hf := eq_false_of_ne_true h
    rw [hf]
    exact word_no s hf w
def wordsA : Array Value := #[.string ⟨#[115, 116, 114, 117, 99, 116]⟩, .string ⟨#[116, 114, 97, 105, 116]⟩, .string ⟨#[105, 109, 112, 108]⟩, .string ⟨#[102, 111, 114]⟩, .string ⟨#[102, 110]⟩, .string ⟨#[119, 104, 101, 114, 101]⟩, .string ⟨#[108, 101, 116]⟩, .string ⟨#[105, 102]⟩, .string ⟨#[101, 108, 115, 101]⟩, .string ⟨#[119, 104, 105, 108, 101]⟩, .string ⟨#[114, 101, 116, 117, 114, 110]⟩, .string ⟨#[97, 98, 111, 114, 116]⟩, .string ⟨#[116, 114, 117, 101]⟩, .string ⟨#[102, 97, 108, 115, 101]⟩, .string ⟨#[109, 117, 116]⟩, .string ⟨#[100, 121, 110]⟩, .string ⟨#[105, 110, 116]⟩, .string ⟨#[98, 111, 111, 108]⟩, .string ⟨#[102, 54, 52]⟩, .string ⟨#[115, 101, 108, 102]⟩, .string ⟨#[66, 111, 120]⟩, .string ⟨#[117, 110, 98, 111, 120]⟩, .string ⟨#[99, 104, 111, 111, 115, 101]⟩, .string ⟨#[110, 101, 119]⟩, .string ⟨#[97, 115]⟩]
theorem wordsA_eq : wordsA = (wordsL.map fun m => Value.string ⟨m.toArray⟩).toArray := rfl
theorem words_any (w : World) : Calls Try.prog 17 #[] w fun e w' => e = .returned (.slice (some ⟨w.heap.size, 0, none⟩) 25 25) ∧ w.alloc (.cells wordsA 9) = w' := by
  go_enter Try.func17, Try.ntmps17
  go_wp2
  go_ret
  exact ⟨rfl, rfl⟩
/-- A slice's cells are these texts. -/
def Strs (w : World) (A : Option Addr) (L : List ByteArray) : Prop := 0 < L.length → ∃ ad, A = some ad ∧ ad.block < w.heap.size ∧ ∀ (i : Nat) (h : i < L.length), w.cell? (ad.add i) = some (.string L[i])
def inB (L : List ByteArray) (s : ByteArray) : Bool := L.any fun x => x.toList == s.toList
theorem any_drop (P : ByteArray → Bool) (L : List ByteArray) (k : Nat) (hk : k < L.length) : (L.drop k).any P = (P L[k] || (L.drop (k + 1)).any P) := by
  rw [List.drop_eq_getElem_cons hk]; rfl
theorem in_any (L : List ByteArray) (A : Option Addr) (c : Nat) (s : ByteArray) (w : World) (hn : L.length ≤ 1000000) (hA : Strs w A L) :
    Calls Try.prog 16 #[.slice A L.length c, .string s] w fun e w' => e = .returned (.bool (inB L s)) ∧ w = w' := by
  have HA := Lib.hid hA
  clear hA
  go_enter Try.func16, Try.ntmps16
  go_wp2
  go_loop [5] (fun i => ∃ k : Nat, k ≤ L.length ∧ i = .int .i64 k ∧ Hid (inB L s = inB (L.drop k) s)) (fun i => L.length - (intOf i).toNat)
  case atStart => exact ⟨0, Nat.zero_le _, rfl, rfl⟩
  case round =>
    obtain ⟨k, hk, rfl, HI⟩ := hrel
    by_cases hlt : k < L.length
    · obtain ⟨ad, rfl, _, hc⟩ := HA.out (by omega)
      have hck := hc k hlt
      have hd := any_drop (fun x => x.toList == s.toList) L k hlt
      obtain ⟨x, hx⟩ : ∃ x, L[k] = x := ⟨_, rfl⟩
      rw [hx] at hck hd
      clear hc hx
      by_cases he : (x.toList == s.toList) = true
      · have HE : Hid (inB L s = true) := by
          have := HI.out
          unfold inB at this ⊢
          rw [this, hd, he]; rfl
        clear hd
        go_wp2
        go_ret
        exact ⟨rbool HE.out.symm, rfl⟩
      · have hef : (x.toList == s.toList) = false := eq_false_of_ne_true he
        have HE : Hid (inB L s = inB (L.drop (k + 1)) s) := by
          have := HI.out
          unfold inB at this ⊢
          rw [this, hd, hef]; rfl
        clear hd he
        go_wp2
        go_round
        case rel => exact ⟨k + 1, by omega, by go_num, HE⟩
        case measure => simp [intOf]; omega
    · have HE : Hid (inB L s = false) := by
        have := HI.out
        rw [List.drop_of_length_le (by omega)] at this
        exact this
      go_wp2
      go_ret
      exact ⟨rbool HE.out.symm, rfl⟩
def wordsS : List ByteArray := wordsL.map fun m => ⟨m.toArray⟩
theorem inB_words (s : ByteArray) : inB wordsS s = isWord s := by
  unfold inB wordsS isWord
  rw [List.any_map, Bool.eq_iff_iff, List.any_eq_true, List.contains_iff_mem]
  constructor
  · rintro ⟨x, hx, h⟩
    have : x = bs s := by
      have h2 := beq_iff_eq.1 h
      rw [ByteArray.toList_eq, ByteArray.toList_eq] at h2
      exact h2
    rw [← this]; exact hx
  · intro h
    exact ⟨bs s, h, by simp only [Function.comp]; rw [beq_iff_eq, ByteArray.toList_eq, ByteArray.toList_eq]; rfl⟩
theorem strs_made (w : World) (L : List ByteArray) (t : TypeId) : Strs (w.alloc (.cells (L.map Value.string).toArray t)) (some ⟨w.heap.size, 0, none⟩) L := fun _ =>
  ⟨_, rfl, by simp, fun i h => cells_made w t (L.map Value.string) i _ (by simp [h])⟩
theorem words_in (s : ByteArray) (w : World) : Calls Try.prog 16 #[.slice (some ⟨w.heap.size, 0, none⟩) 25 25, .string s] (w.alloc (.cells wordsA 9)) fun e w' => e = .returned (.bool (isWord s)) ∧ (w.alloc (.cells wordsA 9)) = w' := by
  rw [← inB_words]
  exact in_any wordsS _ _ s _ (by decide) (strs_made w wordsS 9)
end Go.Proofs.Ytccajbcblbfgnaa
