/- The walks of layer 6: Under where there is no such lifetime; the document's Under; Ints of the same. -/
import Derived.BigQuiet
import Derived.Deep.QuietTactic
import Derived.Test.YtfadojniihjneaaLifeU
namespace Go.Proofs.Ytfadojniihjneaa
open Go.RowKit Lf Go.Deep
theorem under_bad {w : World} {b b1 : Nat} {B K : Nat → Nat} {m : Nat} {M : R2} (h : LRel w b b1 B K m M) {a : Int} (ha : Bad m a) : Calls Try.prog 16 #[.pointer (some ⟨b, 0, none⟩), .int .i64 a] w fun e w' =>
    e = .returned (.slice none 0 0) ∧ w = w' := by
  have R := Lib.hid h
  have hm := h.few
  have HA := Lib.hid ha
  clear h ha
  go_enter Try.func16, Try.ntmps16
  go_wp2_with fail
  refine (lifetimes_any R.out).mono ?_
  rintro e w1 ⟨rfl, rfl⟩
  go_wp2
  go_loop [4, 8] (fun v i => ∃ k : Nat, k ≤ m ∧ i = .int .i64 k ∧ v = .slice none 0 0) (fun _ i => m - (intOf i).toNat)
  case atStart => exact ⟨0, Nat.zero_le _, rfl, rfl⟩
  case round =>
    obtain ⟨k, hk, rfl, rfl⟩ := hrel
    by_cases hlt : k < m
    · go_wp2_with fail
      refine (has_bad1 R.out _ HA.out).mono ?_
      rintro e w2 ⟨rfl, rfl⟩
      go_wp2
      go_round
      case rel => exact ⟨k + 1, by omega, by go_num, rfl⟩
      case measure => simp [intOf]; omega
    · have hkm : k = m := by omega
      subst hkm
      go_wp2
      go_ret
      exact ⟨rfl, rfl⟩
set_option maxHeartbeats 1000000 in
theorem runder_any {w : World} {c : Nat} {N : Int} {m : Nat} {A : Option Addr} {cap : Nat} {L : List (Nat × Nat)} (h : RRel w c N m A cap L) {a : Nat} (ha : a < m) : Calls Try.prog 13 #[.pointer (some ⟨c, 0, none⟩), .int .i64 a] w fun e w' =>
    ∃ v, e = .returned v ∧ w'.ownsRow w.heap.size 3 1 v (underL (all stat L) a m).length (intsC (underL (all stat L) a m)) ∧ Below w.heap.size w w' := by
  obtain ⟨i0, hi0, hz0, hz1, hz2⟩ := info_parts info_int
  have R := Lib.hid h
  have hm := h.few
  have hlast := h.last
  have HI := Lib.hid hi0
  obtain ⟨M, hM⟩ : ∃ M, all stat L = M := ⟨_, rfl⟩
  have HM := Lib.hid hM
  rw [hM]
  obtain ⟨H, hH⟩ : ∃ x, w.heap.size = x := ⟨_, rfl⟩
  have HH := Lib.hid hH
  rw [hH]
  clear hH h hi0 hM
  go_enter Try.func13, Try.ntmps13
  go_wp2
  go_loopw [5, 6] (fun v i wr => ∃ k : Nat, k ≤ m ∧ i = .int .i64 k ∧ Hid (wr.ownsRow H 3 1 v (underL M a k).length (intsC (underL M a k))) ∧ Hid (Below H w wr)) (fun _ i _ => m - (intOf i).toNat)
  case atStart => exact ⟨0, Nat.zero_le _, rfl, ⟨rfl, .inl ⟨rfl, rfl⟩⟩, by rw [← HH.out]; exact Below.refl _ _⟩
  case round =>
    obtain ⟨k, hk, rfl, HO, HB⟩ := hrel
    have RW := Lib.hid (R.out.below (by rw [HH.out]; exact HB.out))
    have c0 := RW.out.c0
    by_cases hlt : k < m
    · have hkN : (k : Int) ≤ N := by omega
      go_wp2_with fail
      refine (rhas_in RW.out ha hlt).mono ?_
      rintro e w2 ⟨rfl, q⟩
      have HO2 := Lib.hid (own_below HO.out q)
      have hsz0 : H ≤ wr.heap.size := by have := HB.out.size; have := HH.out; omega
      have HB2 := Lib.hid (HB.out.trans (q.mono hsz0))
      have hsz : H ≤ w2.heap.size := by have := q.size; omega
      obtain ⟨ao, cp, rfl⟩ := own_slice HO2.out
      clear q c0
      rw [HM.out]
      cases hx : M a k with
      | false =>
        have HS : Hid (w2.ownsRow H 3 1 (.slice ao (underL M a k).length cp) (underL M a (k + 1)).length (intsC (underL M a (k + 1)))) := by
          show World.ownsRow _ _ _ _ _ _ _
          rw [underL_no hx]
          exact HO2.out
        clear hx
        go_wp2
        go_roundw
        case rel => exact ⟨k + 1, by omega, by go_num, HS, HB2⟩
        case measure => simp [intOf]; omega
      | true =>
        obtain ⟨n, hn⟩ : ∃ n, (underL M a k).length = n := ⟨_, rfl⟩
        have hnk : n ≤ 301 := by have := underL_len M a k; omega
        have HN := Lib.hid hn
        rw [hn] at HO2
        clear hn
        have HX := Lib.hid hx
        clear hx
        rw [HN.out]
        go_wp2_with (at_builtin; refine wpList_append_own _ rfl (.tmp 19) (.tmp 21) 30 rfl H 3 i0 (.int .i64 0) 1 8 Try.underlying30 HI.out hz0 hz1 hz2 rfl (by decide) _ _ _ rfl (HO2.out.alloc _) ⟨w2.heap.size, 0, none⟩ 1 1 [.int .i64 k] rfl rfl ?c1 ?c2 ?c3 ?c4 ?c5 ?_)
        case c1 => exact cells_made _ _ _
        case c2 => intro u hu; simp at hu; subst hu; rfl
        case c3 => unfold maxLen; omega
        case c4 => omega
        case c5 => simp; omega
        intro v2 w3 hown2 hgr _
        have HS : Hid (w3.ownsRow H 3 1 v2 (underL M a (k + 1)).length (intsC (underL M a (k + 1)))) := by
          show World.ownsRow _ _ _ _ _ _ _
          rw [underL_yes HX.out, intsC_snoc, List.length_append, HN.out]
          exact hown2
        have HT : Hid (Below H w w3) := below_on HB2.out HO2.out (Nat.le_refl _) hsz hgr
        clear hown2 hgr
        go_wp2
        go_roundw
        case rel => exact ⟨k + 1, by omega, by go_num, HS, HT⟩
        case measure => simp [intOf]; omega
    · have hkm : k = m := by omega
      have hkN : N < (k : Int) := by omega
      subst hkm
      go_wp2
      go_ret
      exact ⟨_, rfl, HO.out, HB.out⟩
/-- Cells that lie behind a slice. -/
def At1 (w : World) (A : Option Addr) (xs : List Value) : Prop := 0 < xs.length → ∃ bk, A = some ⟨bk, 0, none⟩ ∧ bk < w.heap.size ∧ ∀ (i : Nat) (u : Value), xs[i]? = some u → w.cell? ⟨bk, i, none⟩ = some u
theorem own_at {w : World} {base n cap size : Nat} {e : TypeId} {A : Option Addr} {xs : List Value} (h : w.ownsRow base e size (.slice A n cap) n xs) : At1 w A xs := fun h0 => by
  have hn : 0 < n := by
    rcases Nat.eq_zero_or_pos n with h1 | h1
    · have := h.1
      rw [h1, Nat.zero_mul] at this
      omega
    · exact h1
  obtain ⟨g, cp, hv, _, hl⟩ := h.form hn
  injection hv with hA
  subst hA
  have hc := h.cells (g := g) rfl
  refine ⟨g, rfl, hl, fun i u hu => ?_⟩
  have := hc i u hu
  rwa [show (⟨g, 0, none⟩ : Addr).add i = ⟨g, i, none⟩ from by unfold Addr.add; split <;> simp_all] at this
theorem At1.drewN {w : World} {A : Option Addr} {xs : List Value} (h : At1 w A xs) (q : Nat) : At1 (w.drewN q) A xs := h
theorem At1.below {w w' : World} {A : Option Addr} {xs : List Value} (h : At1 w A xs) (hb : Below w.heap.size w w') : At1 w' A xs := fun h0 => by
  obtain ⟨bk, e, hl, hc⟩ := h h0
  exact ⟨bk, e, Nat.lt_of_lt_of_le hl hb.size, fun i u hu => (hb.cell (p := ⟨bk, i, none⟩) hl).trans (hc i u hu)⟩
theorem intsC_at {l : List Nat} {i : Nat} (h : i < l.length) : (intsC l)[i]? = some (.int .i64 (l[i] : Int)) := by
  unfold intsC
  rw [List.getElem?_map, List.getElem?_eq_getElem h]; rfl
theorem ints_same {w : World} (l : List Nat) (hn : l.length ≤ 1000) (A1 A2 : Option Addr) (c1 c2 : Nat) (h1 : At1 w A1 (intsC l)) (h2 : At1 w A2 (intsC l)) :
    Calls Try.prog 15 #[.slice A1 l.length c1, .slice A2 l.length c2] w fun e w' => e = .returned (.bool true) ∧ ∃ q, w.drewN q = w' := by
  have H1 := Lib.hid h1
  have H2 := Lib.hid h2
  obtain ⟨n, hln⟩ : ∃ n, l.length = n := ⟨_, rfl⟩
  have HLN := Lib.hid hln
  rw [hln] at hn ⊢
  clear h1 h2 hln
  go_enter Try.func15, Try.ntmps15
  go_wp2
  go_loopw [5] (fun i wr => ∃ k q : Nat, k ≤ n ∧ i = .int .i64 k ∧ wr = w.drewN q) (fun i _ => n - (intOf i).toNat)
  case atStart => exact ⟨0, 0, Nat.zero_le _, rfl, rfl⟩
  case round =>
    obtain ⟨k, q, hk, rfl, rfl⟩ := hrel
    by_cases hlt : k < n
    · obtain ⟨b1, rfl, _, e1⟩ := H1.out (by rw [intsC_length, HLN.out]; omega)
      obtain ⟨b2, rfl, _, e2⟩ := H2.out (by rw [intsC_length, HLN.out]; omega)
      have hkl : k < l.length := by rw [HLN.out]; exact hlt
      have d1 := e1 k _ (intsC_at hkl)
      have d2 := e2 k _ (intsC_at hkl)
      obtain ⟨x, hx⟩ : ∃ x, l[k] = x := ⟨_, rfl⟩
      rw [hx] at d1 d2
      clear hx e1 e2 hkl
      go_wp2_with fail
      go_quiet (fail)
      go_wp2
      go_roundw
      case rel => exact ⟨k + 1, _, by omega, by go_num, rfl⟩
      case measure => simp [intOf]; omega
    · have hkm : k = n := by omega
      subst hkm
      go_wp2
      go_ret
      exact ⟨rfl, q, rfl⟩
end Go.Proofs.Ytfadojniihjneaa
