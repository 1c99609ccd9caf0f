/- The walks of layer 6: Under, by the program and by the document. -/
import Derived.Test.YtfadojniihjneaaLifeK
namespace Go.Proofs.Ytfadojniihjneaa
open Go.RowKit Lf Go.Deep
def intsC (l : List Nat) : List Value := l.map fun (x : Nat) => Value.int .i64 ((x : Nat) : Int)
theorem intsC_length (l : List Nat) : (intsC l).length = l.length := by simp [intsC]
theorem intsC_snoc (l : List Nat) (x : Nat) : intsC (l ++ [x]) = intsC l ++ [.int .i64 (x : Int)] := by simp [intsC]
/-- All of the first k that a outlives. -/
def underL (M : R2) (a k : Nat) : List Nat := (List.range k).filter (M a)
theorem underL_yes {M : R2} {a k : Nat} (h : M a k = true) : underL M a (k + 1) = underL M a k ++ [k] := by
  unfold underL
  rw [List.range_succ, List.filter_append]
  simp [h]
theorem underL_no {M : R2} {a k : Nat} (h : M a k = false) : underL M a (k + 1) = underL M a k := by
  unfold underL
  rw [List.range_succ, List.filter_append]
  simp [h]
theorem underL_len (M : R2) (a k : Nat) : (underL M a k).length ≤ k := by
  unfold underL
  exact Nat.le_trans (List.length_filter_le _ _) (by simp)
section
variable {w w1 w3 : World} {b b1 base base' n n' size size' : Nat} {B K : Nat → Nat} {m : Nat} {M : R2} {v v' : Value} {xs ys : List Value} {e e' : TypeId} {o : Obj}
theorem LRel.grownE (h : LRel w b b1 B K m M) (ho : w.ownsRow base e size v n xs) (hg : (w.alloc o).grownBy w3 v.ownBlock) (h1 : e ≠ 54) (h2 : e ≠ 51) (h3 : e ≠ 4) : LRel w3 b b1 B K m M := by
  refine h.of (own_blk ho h.head h1 hg) ?_ fun i hi => ?_
  · obtain ⟨_, hc, _⟩ := h.outer
    exact own_blk ho hc h2 hg
  · obtain ⟨_, _, hc, _⟩ := h.row i hi
    exact own_blk ho hc h3 hg
theorem own_far (h : w.ownsRow base e size v n xs) (h' : w.ownsRow base' e' size' v' n' ys) (hne : e' ≠ e) (hg : (w.alloc o).grownBy w3 v'.ownBlock) : w3.ownsRow base e size v n xs :=
  own_of_block h fun g hgv => by
    rcases h.2 with ⟨rfl, _⟩ | ⟨g', cap, cur, rfl, _, hh, _⟩
    · cases hgv
    · have : g' = g := by simpa [Value.ownBlock] using hgv
      subst this
      exact own_blk h' (t := e) (cs := cur) hh hne hg
end
set_option maxHeartbeats 1000000 in
theorem under_any {w : World} {b b1 : Nat} {B K : Nat → Nat} {m : Nat} {M : R2} (h : LRel w b b1 B K m M) {a : Nat} (ha : a < m) : Calls Try.prog 16 #[.pointer (some ⟨b, 0, none⟩), .int .i64 a] w fun e w' =>
    ∃ v, e = .returned v ∧ w'.ownsRow w.heap.size 3 1 v (underL M a m).length (intsC (underL M a m)) ∧ Below w.heap.size w w' := by
  obtain ⟨i0, hi0, hz0, hz1, hz2⟩ := info_parts info_int
  have R := Lib.hid h
  have hm := h.few
  have HI := Lib.hid hi0
  obtain ⟨H, hH⟩ : ∃ x, w.heap.size = x := ⟨_, rfl⟩
  have HH := Lib.hid hH
  rw [hH]
  clear hH h hi0
  go_enter Try.func16, Try.ntmps16
  go_wp2_with fail
  refine (lifetimes_any R.out).mono ?_
  rintro e w1 ⟨rfl, rfl⟩
  go_wp2
  go_loopw [4, 8] (fun v i wr => ∃ k : Nat, k ≤ m ∧ i = .int .i64 k ∧ Hid (wr.ownsRow H 3 1 v (underL M a k).length (intsC (underL M a k))) ∧ Hid (Below H w wr)) (fun _ i _ => m - (intOf i).toNat)
  case atStart => exact ⟨0, Nat.zero_le _, rfl, ⟨rfl, .inl ⟨rfl, rfl⟩⟩, by rw [← HH.out]; exact Below.refl _ _⟩
  case round =>
    obtain ⟨k, hk, rfl, HO, HB⟩ := hrel
    by_cases hlt : k < m
    · have RW := Lib.hid (R.out.below (by rw [HH.out]; exact HB.out))
      obtain ⟨ao, cp, rfl⟩ := own_slice HO.out
      go_wp2_with fail
      refine (has_in RW.out ha hlt).mono ?_
      rintro e w2 ⟨rfl, rfl⟩
      cases hx : M a k with
      | false =>
        have HS : Hid (wr.ownsRow H 3 1 (.slice ao (underL M a k).length cp) (underL M a (k + 1)).length (intsC (underL M a (k + 1)))) := by
          show World.ownsRow _ _ _ _ _ _ _
          rw [underL_no hx]
          exact HO.out
        clear hx
        go_wp2
        go_roundw
        case rel => exact ⟨k + 1, by omega, by go_num, HS, HB⟩
        case measure => simp [intOf]; omega
      | true =>
        obtain ⟨n, hn⟩ : ∃ n, (underL M a k).length = n := ⟨_, rfl⟩
        have hnk : n ≤ 301 := by have := underL_len M a k; omega
        have hsz : H ≤ wr.heap.size := by have := HB.out.size; have := HH.out; omega
        have HN := Lib.hid hn
        rw [hn] at HO
        clear hn
        have HX := Lib.hid hx
        clear hx
        rw [HN.out]
        go_wp2_with (at_builtin; refine wpList_append_own _ rfl (.tmp 15) (.tmp 17) 30 rfl H 3 i0 (.int .i64 0) 1 8 Try.underlying30 HI.out hz0 hz1 hz2 rfl (by decide) _ _ _ rfl (HO.out.alloc _) ⟨wr.heap.size, 0, none⟩ 1 1 [.int .i64 k] rfl rfl ?c1 ?c2 ?c3 ?c4 ?c5 ?_)
        case c1 => exact cells_made _ _ _
        case c2 => intro u hu; simp at hu; subst hu; rfl
        case c3 => unfold maxLen; omega
        case c4 => omega
        case c5 => simp; omega
        intro v2 w2 hown2 hgr _
        have HS : Hid (w2.ownsRow H 3 1 v2 (underL M a (k + 1)).length (intsC (underL M a (k + 1)))) := by
          show World.ownsRow _ _ _ _ _ _ _
          rw [underL_yes HX.out, intsC_snoc, List.length_append, HN.out]
          exact hown2
        have HT : Hid (Below H w w2) := below_on HB.out HO.out (Nat.le_refl _) hsz hgr
        clear hown2 hgr
        go_wp2
        go_roundw
        case rel => exact ⟨k + 1, by omega, by go_num, HS, HT⟩
        case measure => simp [intOf]; omega
    · have hkm : k = m := by omega
      subst hkm
      go_wp2
      go_ret
      exact ⟨_, rfl, HO.out, HB.out⟩
end Go.Proofs.Ytfadojniihjneaa
