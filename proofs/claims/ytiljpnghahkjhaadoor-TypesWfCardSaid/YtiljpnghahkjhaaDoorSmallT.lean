/- The walk of layer 7's reference: is a type small? And what it says of one that is. -/
import Derived.Test.YtiljpnghahkjhaaDoorBox
import Derived.Test.YtiljpnghahkjhaaDoorTypeO
namespace Go.Proofs.YtiljpnghahkjhaaDoor
open Go.RowKit Go.Deep
namespace Tr
/-- Of a type that is small: no lists are long. -/
def Slim : Nat → Ty → Prop
  | 0, _ => False
  | n + 1, .mk _ nm _ _ rs ar => nm.size ≤ 60 ∧ rs.length ≤ 6 ∧ ar.length ≤ 4 ∧ ∀ x ∈ ar, Slim n x
def SlimB (d : Nat) (x : Ty) (e : Ending) : Prop := ∃ b, e = .returned (.bool b) ∧ (b = true → Slim d x)
def SmallTyOk (n : Nat) : Prop := ∀ (x : Ty) (cs : List Value) (d : Nat) (w : World), TyAt w n x cs → d ≤ 100 →
    Calls Tryd.prog 9 #[.agg cs.toArray, .int .i64 d] w fun e w' => SlimB d x e ∧ Below w.heap.size w w'
set_option maxHeartbeats 4000000 in
set_option maxRecDepth 100000 in
theorem small_step (n : Nat) (IH : Hid (SmallTyOk n)) : SmallTyOk (n + 1) := by
    rintro ⟨k0, nm, u, r, rs, ar⟩ cs d w h hd
    obtain ⟨An, cn, A, ca, rfl, ⟨_, h1⟩, h2⟩ := h
    obtain ⟨la, hla⟩ : ∃ n, ar.length = n := ⟨_, rfl⟩
    obtain ⟨ll, hll⟩ : ∃ n, rs.length = n := ⟨_, rfl⟩
    have HLA := Lib.hid hla
    have HLL := Lib.hid hll
    rw [hla, hll]
    have H2 := Lib.hid h2
    have hb0 : Below w.heap.size w (w.alloc (.cells #[.int .i64 k0, .string nm, .bool u, .int .i64 r, .slice An ll cn, .slice A la ca] 25)) := (Below.refl _ w).alloc (Nat.le_refl _) _
    have I0 := Lib.hid (Is.made w 25 #[.int .i64 k0, .string nm, .bool u, .int .i64 r, .slice An ll cn, .slice A la ca])
    have B0 := Lib.hid hb0
    clear h1 h2 hla hll hb0
    by_cases hout : d = 0 ∨ (0 < d ∧ 4 < la) ∨ (0 < d ∧ la ≤ 4 ∧ 6 < ll) ∨ (0 < d ∧ la ≤ 4 ∧ ll ≤ 6 ∧ 60 < nm.size)
    · rcases hout with g1 | ⟨g1, g2⟩ | ⟨g1, g2, g3⟩ | ⟨g1, g2, g3, g4⟩
      · subst g1
        go_enter Tryd.func9, Tryd.ntmps9
        go_wp2
        go_ret
        exact ⟨⟨_, rfl, fun e => by cases e⟩, B0.out⟩
      all_goals
        have e0 : ((d : Int) == 0) = false := by rw [beq_eq_false_iff_ne]; omega
        go_enter Tryd.func9, Tryd.ntmps9
        go_wp2
        go_ret
        exact ⟨⟨_, rfl, fun e => by cases e⟩, B0.out⟩
    · have e0 : ((d : Int) == 0) = false := by rw [beq_eq_false_iff_ne]; omega
      have g2 : la ≤ 4 := by omega
      have g3 : ll ≤ 6 := by omega
      have g4 : nm.size ≤ 60 := by omega
      obtain ⟨dd, rfl⟩ : ∃ dd, d = dd + 1 := ⟨d - 1, by omega⟩
      have G : Hid (nm.size ≤ 60 ∧ rs.length ≤ 6 ∧ ar.length ≤ 4) := ⟨g4, by rw [HLL.out]; exact g3, by rw [HLA.out]; exact g2⟩
      have hdd : ((dd + 1 : Nat) : Int) - 1 = (dd : Int) := by omega
      obtain ⟨di, hdi⟩ : ∃ di : Int, ((dd + 1 : Nat) : Int) = di := ⟨_, rfl⟩
      have hdi2 : di ≤ 100 := by omega
      have hdi3 : 0 < di := by omega
      rw [hdi] at e0 hdd ⊢
      clear hout hdi hd
      go_enter Tryd.func9, Tryd.ntmps9
      go_wp2
      go_loopw [5] (fun i wr => ∃ k : Nat, k ≤ la ∧ i = .int .i64 k ∧ Hid (Below (w.heap.size + 1) (w.alloc (.cells #[.int .i64 k0, .string nm, .bool u, .int .i64 r, .slice An ll cn, .slice A la ca] 25)) wr) ∧ Hid (∀ x ∈ ar.take k, Slim dd x)) (fun i _ => la - (intOf i).toNat)
      case atStart => exact ⟨0, Nat.zero_le _, rfl, Below.refl _ _, by show ∀ x ∈ ar.take 0, Slim dd x; simp⟩
      case round =>
        obtain ⟨q, hq, rfl, HB, HT⟩ := hrel
        have IW := I0.out.below HB.out (by omega)
        have hsz : w.heap.size + 1 ≤ wr.heap.size := by have := HB.out.size; simpa using this
        have c5 := IW.at_ 5
        simp only [List.getElem?_toArray, List.getElem?_cons_zero, List.getElem?_cons_succ] at c5
        have BW : Hid (Below w.heap.size w wr) := B0.out.trans (HB.out.mono (by omega))
        by_cases hql : q < la
        · have hqL : q < ar.length := by rw [HLA.out]; exact hql
          obtain ⟨bk, o, cs2, rfl, _, hl2, hs2, hc2⟩ := (H2.out.below BW.out (fun x _ cs h => TyAt.below BW.out n x cs h)).get (by decide) hqL
          obtain ⟨x, hx⟩ : ∃ x, ar[q] = x := ⟨_, rfl⟩
          rw [hx] at hs2
          have HX : Hid (ar.take (q + 1) = ar.take q ++ [x]) := by show _ = _; rw [List.take_succ_eq_append_getElem hqL, hx]
          match cs2, hl2 with
          | [v0, v1, v2, v3, v4, v5], _ =>
            have x0 := hc2 0 _ rfl
            rw [Nat.add_zero] at x0
            have x1 := hc2 1 _ rfl
            have x2 := hc2 2 _ rfl
            have x3 := hc2 3 _ rfl
            have x4 := hc2 4 _ rfl
            have x5 := hc2 5 _ rfl
            have HS := Lib.hid (IH.out _ _ dd wr hs2 (by omega))
            clear hc2 hs2 IW hx hqL
            go_wp2_with fail
            refine HS.out.mono ?_
            rintro e w3 ⟨⟨b, rfl, hbs⟩, q3⟩
            have HB3 := Lib.hid (HB.out.trans (q3.mono hsz))
            have BW3 := Lib.hid (BW.out.trans (q3.mono (by omega)))
            have HBS := Lib.hid hbs
            clear q3 hbs
            cases b with
            | true =>
              have HT3 : Hid (∀ x ∈ ar.take (q + 1), Slim dd x) := fun y hy => by
                rw [HX.out] at hy
                rcases List.mem_append.1 hy with hy | hy
                · exact HT.out y hy
                · rw [List.mem_singleton.1 hy]; exact HBS.out rfl
              clear HT HX HBS
              go_wp2
              go_roundw
              case rel => exact ⟨q + 1, by omega, by go_num, HB3, HT3⟩
              case measure => simp [intOf]; omega
            | false =>
              go_wp2
              go_ret
              exact ⟨⟨_, rfl, fun e => by cases e⟩, BW3.out⟩
        · have hqe : q = la := by omega
          have HF : Hid (∀ x ∈ ar, Slim dd x) := by
            have := HT.out
            rw [List.take_of_length_le (by rw [HLA.out]; omega)] at this
            exact this
          subst hqe
          clear HT
          go_wp2
          go_ret
          exact ⟨⟨_, rfl, fun _ => ⟨G.out.1, G.out.2.1, G.out.2.2, HF.out⟩⟩, BW.out⟩
theorem small_any : ∀ n, SmallTyOk n
  | 0 => fun _ _ _ _ h _ => h.elim
  | n + 1 => small_step n (small_any n)
end Tr
end Go.Proofs.YtiljpnghahkjhaaDoor
