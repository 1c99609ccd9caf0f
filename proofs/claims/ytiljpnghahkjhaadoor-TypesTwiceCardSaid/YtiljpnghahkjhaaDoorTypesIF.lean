/- Layer 7: Inst, where nothing is put in for parameters: its closures. -/
import Derived.BigQuiet
import Derived.Carry
import Derived.Test.YtiljpnghahkjhaaDoorMaps
import Derived.Test.YtiljpnghahkjhaaDoorTypesID
namespace Go.Proofs.YtiljpnghahkjhaaDoor
open Go.RowKit Go.Deep Tr Mp
namespace Ts
def lifeP (ls : List Int) (r : Int) : Int := if r < 1 ∨ (ls.length : Int) < r then r else ls.getD (r - 1).toNat 0
theorem life_any {ls : List Int} {v : Value} {l : Nat} {X : World} (q : Int) (hl : Is X l 22 #[v]) (hv : RowI X v ls) :
    Calls Tryd.prog 37 #[.int .i64 q, .pointer (some ⟨l, 0, none⟩)] X fun e w' => e = .returned (.int .i64 (lifeP ls q)) ∧ w' = X := by
  obtain ⟨A, c, rfl, h⟩ := hv
  have hle := h.le
  unfold maxLen at hle
  obtain ⟨n, hn⟩ : ∃ n, ls.length = n := ⟨_, rfl⟩
  have n0 := hl.at_ 0
  simp at n0
  rw [hn] at n0 hle
  obtain ⟨x, hx⟩ : ∃ x, lifeP ls q = x := ⟨_, rfl⟩
  rw [hx]
  unfold lifeP at hx
  rw [hn] at hx
  by_cases h1 : q < 1
  · rw [if_pos (.inl h1)] at hx
    subst hx
    clear h hl hn
    go_enter Tryd.func37, Tryd.ntmps37
    go_wp2
    go_ret
    exact ⟨rfl, rfl⟩
  · by_cases h2 : (n : Int) < q
    · rw [if_pos (.inr h2)] at hx
      subst hx
      clear h hl hn
      go_enter Tryd.func37, Tryd.ntmps37
      go_wp2
      go_ret
      exact ⟨rfl, rfl⟩
    · rw [if_neg (by omega)] at hx
      obtain ⟨j, rfl⟩ : ∃ j : Nat, q = (j : Int) + 1 := ⟨(q - 1).toNat, by omega⟩
      have hj : j < ls.length := by omega
      have e1 : ((j : Int) + 1 - 1).toNat = j := by omega
      rw [e1, List.getD_eq_getElem?_getD, List.getElem?_eq_getElem hj, Option.getD_some] at hx
      obtain ⟨bk, o, rfl, _, d⟩ := int_at h hj
      rw [hx] at d
      clear h hl hn hj hx e1
      go_enter Tryd.func37, Tryd.ntmps37
      go_wp2
      go_ret
      exact ⟨rfl, rfl⟩
theorem zero_i (w : World) : (zeroValue 3).run Tryd.prog w = .ok (.int .i64 0) w := by kernel_rfl
theorem noarg_any {b : Nat} {p a : Nat} {X : World} {s : ByteArray} (hs : s.size ≤ maxLen) (hp : Is X p 50 #[.map (some b)]) (hm : MapAt X Tryd.prog 9 b 0 (fun _ => none)) :
    Calls Tryd.prog 39 #[.string s, .pointer (some ⟨p, 0, none⟩), .pointer (some ⟨a, 0, none⟩)] X fun e w' => e = .returned (.tuple #[zeroTy, .bool false]) ∧ Below X.heap.size X w' := by
  have n0 := (hp.alloc (.cells #[.int .i64 0, .string ⟨#[]⟩, .bool false, .int .i64 0, .slice none 0 0, .slice none 0 0] 25)).at_ 0
  simp at n0
  have hl := look_ok_at (hm.alloc (.cells #[.int .i64 0, .string ⟨#[]⟩, .bool false, .int .i64 0, .slice none 0 0, .slice none 0 0] 25)) Tryd.underlying9 Tryd.underlying50 (zero_i _) hs
  simp only [Option.getD_none, Option.isSome_none] at hl
  have hB : Hid (Below X.heap.size X (X.alloc (.cells #[.int .i64 0, .string ⟨#[]⟩, .bool false, .int .i64 0, .slice none 0 0, .slice none 0 0] 25))) := (Below.refl _ X).alloc (Nat.le_refl _) _
  clear hp hm
  go_enter Tryd.func39, Tryd.ntmps39
  go_wp2_with fail
  have i4 := Is.made X 25 #[.int .i64 0, .string ⟨#[]⟩, .bool false, .int .i64 0, .slice none 0 0, .slice none 0 0]
  have p0 := i4.at_ 0
  have p1 := i4.at_ 1
  have p2 := i4.at_ 2
  have p3 := i4.at_ 3
  have p4 := i4.at_ 4
  have p5 := i4.at_ 5
  simp only [List.getElem?_toArray, List.getElem?_cons_zero, List.getElem?_cons_succ] at p0 p1 p2 p3 p4 p5
  exact bodyPost_ret (v := .tuple #[zeroTy, .bool false]) (by simp [results, Tryd.results39, go_sem, zeroTy, p0, p1, p2, p3, p4, p5]) rfl ⟨rfl, hB.out⟩
end Ts
end Go.Proofs.YtiljpnghahkjhaaDoor
