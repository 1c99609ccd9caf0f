/- The reference: Backward. -/
import Derived.Test.YtbeepedobnaojaaDoorFlowO
namespace Go.Proofs.YtbeepedobnaojaaDoor
open Go.RowKit Lf Go.Deep Sv Tr
namespace Fl
set_option maxHeartbeats 8000000 in
set_option maxRecDepth 100000 in
theorem backward_ref {w : World} {vs vg vk ve : Value} {p : Pb} (h : PbAt w vs vg vk ve p) (ho : codeP p = 0) (hn : p.succ.length ≤ 64) (e : Int) :
    Calls Tryd.prog 17 #[pbV vs vg vk ve p.width, .int .i64 e] w fun x w' =>
      ∃ rb, x = .returned (.slice (some ⟨rb, 0, none⟩) p.succ.length p.succ.length) ∧ BRow w' rb p.succ.length (brounds p e (p.succ.length + 1)) ∧ Below w.heap.size w w' := by
  have hok := code_ok hn ho
  obtain ⟨n, hn0⟩ : ∃ n, p.succ.length = n := ⟨_, rfl⟩
  have hmk := run_make_row' (P := Tryd.prog) 59 4 (.bool false) 1 Tryd.underlying59 info_bool rfl .i64 .i64 n (by omega) (by omega)
  obtain ⟨V, hV⟩ : ∃ V, (w.alloc (.cells #[vs, .int .i64 p.width, vg, vk, ve] 25)).alloc (.cells (madeCells #[.bool false] n) 4) = V := ⟨_, rfl⟩
  have hR : Rs w V w.heap.size n vs vg vk ve p.width fun _ => false := by
    subst hV
    refine ⟨((Below.refl _ w).alloc (Nat.le_refl _) _).alloc (by simp) _, (Is.made w _ _).alloc _, _, ?_, made_bool n⟩
    have := Is.made (w.alloc (.cells #[vs, .int .i64 p.width, vg, vk, ve] 25)) 4 (madeCells #[.bool false] n)
    simpa using this
  obtain ⟨As, cs, rfl, hmaxs, hgets⟩ := h.s.form
  have hLV := fun (W : World) (hb : Below w.heap.size w W) (i : Nat) (b : Bool) => leaves_ref (h.below hb) i e b
  obtain ⟨Ae, ce, rfl, _⟩ := h.e
  obtain ⟨l, hl⟩ : ∃ n, p.entry.length = n := ⟨_, rfl⟩
  obtain ⟨wd, hwd⟩ : ∃ c, p.width = c := ⟨_, rfl⟩
  have hHV : w.heap.size + 1 < V.heap.size := hR.row.lt
  obtain ⟨H, hH⟩ : ∃ x, w.heap.size = x := ⟨_, rfl⟩
  simp only [hn0, hl, hwd, hH] at hn hV hR hLV hHV ⊢
  have HN := Lib.hid hn0
  have HH := Lib.hid hH
  have HV := Lib.hid hV
  have HR := Lib.hid hR
  have HLV := Lib.hid hLV
  have HG := Lib.hid hgets
  have HS := Lib.hid hok.s
  have d0 := hR.box.at_ 0
  simp at d0
  have e0 : (w.alloc (.cells #[.slice As n cs, .int .i64 wd, vg, vk, .slice Ae l ce] 25)).cell? ⟨H, 0, none⟩ = some (.slice As n cs) := by
    rw [← hH, (Is.made w 25 _).at_]; rfl
  clear hgets hLV hl hwd hn0 hV hR ho hok h
  unfold pbV
  have HR0 : Hid (Rs w ((w.alloc (.cells #[.slice As n cs, .int .i64 wd, vg, vk, .slice Ae l ce] 25)).alloc (.cells (madeCells #[.bool false] n) 4)) H n (.slice As n cs) vg vk (.slice Ae l ce) wd (brounds p e 0)) := by
    show Rs _ _ _ _ _ _ _ _ _ _
    rw [HV.out]
    exact HR.out
  go_enter Tryd.func17, Tryd.ntmps17
  go_wp2
  clear e0 d0
  go_loopw [7] (fun i wr => ∃ r : Nat, r ≤ n + 1 ∧ i = .int .i64 r ∧ Hid (Rs w wr H n (.slice As n cs) vg vk (.slice Ae l ce) wd (brounds p e r))) (fun i _ => n + 1 - (intOf i).toNat)
  case atStart => exact ⟨0, Nat.zero_le _, rfl, HR0⟩
  clear HR0
  case round =>
    obtain ⟨r, hr, rfl, HQ⟩ := hrel
    by_cases hlr : r < n + 1
    · have HQ1 : Hid (Rs w wr H n (.slice As n cs) vg vk (.slice Ae l ce) wd (bpass p e 0 (brounds p e r))) := HQ
      have hrn : decide (r ≤ n) = true := decide_eq_true (by omega)
      clear HQ
      go_wp2
      clear hrn
      go_loopw [8] (fun i wr => ∃ k : Nat, k ≤ n ∧ i = .int .i64 k ∧ Hid (Rs w wr H n (.slice As n cs) vg vk (.slice Ae l ce) wd (bpass p e k (brounds p e r)))) (fun i _ => n - (intOf i).toNat)
      case atStart => exact ⟨0, Nat.zero_le _, rfl, HQ1⟩
      clear HQ1
      case round =>
        obtain ⟨k, hk, rfl, HQ⟩ := hrel
        by_cases hlk : k < n
        · obtain ⟨C, hC⟩ : ∃ C, bpass p e k (brounds p e r) = C := ⟨_, rfl⟩
          have hsucc : bpass p e (k + 1) (brounds p e r) = bstep p e C k := by rw [bpass_succ, hC]
          have q := HQ.out
          rw [hC] at q
          have HNX := Lib.hid hsucc
          have HQ2 : Hid (Rs w wr H n (.slice As n cs) vg vk (.slice Ae l ce) wd C) := q
          obtain ⟨bk, o, u, rfl, hbk, hcell, hrow⟩ := HG.out k (by rw [HN.out]; exact hlk)
          obtain ⟨A2, c2, rfl, hmax2, hget2⟩ := rowI_form hrow
          obtain ⟨li, hli⟩ : ∃ x, (p.succ[k]'(by rw [HN.out]; exact hlk)) = x := ⟨_, rfl⟩
          rw [hli] at hcell hmax2 hget2
          have HLI : Hid (p.succ.getD k [] = li) := by show _ = _; rw [getD_at (by rw [HN.out]; exact hlk), hli]
          have HLO : Hid (∀ x ∈ li, 0 ≤ x ∧ x < (n : Int)) := fun x hx => by
            have := row_ok HS.out (HLI.out.symm ▸ hx : x ∈ p.succ.getD k [])
            rw [HN.out] at this
            exact this
          obtain ⟨n2, hn2⟩ : ∃ x, li.length = x := ⟨_, rfl⟩
          have HN2 := Lib.hid hn2
          have HG2 := Lib.hid hget2
          rw [hn2] at hcell hmax2
          unfold maxLen at hmax2
          rw [HH.out] at hbk
          have g1 := (q.below.cell (p := ⟨bk, o + k, none⟩) hbk).trans hcell
          have b0 := q.box.at_ 0
          have b1 := q.box.at_ 1
          have b2 := q.box.at_ 2
          have b3 := q.box.at_ 3
          have b4 := q.box.at_ 4
          simp at b0 b1 b2 b3 b4
          clear hrow hget2 hli hn2 q hC hsucc HQ
          go_wp2
          go_loopw [9, 10] (fun v i wr' => ∃ j : Nat, j ≤ n2 ∧ i = .int .i64 j ∧ wr' = wr ∧ v = .bool (anyB (li.take j) C)) (fun _ i _ => n2 - (intOf i).toNat)
          case atStart => exact ⟨0, Nat.zero_le _, rfl, rfl, rfl⟩
          case round =>
            obtain ⟨j, hj, rfl, rfl, rfl⟩ := hrel
            by_cases hlj : j < n2
            · obtain ⟨bk2, o2, rfl, hbk2, hc2⟩ := HG2.out j (by rw [HN2.out]; exact hlj)
              rw [HH.out] at hbk2
              have hin := HLO.out _ (List.getElem_mem (show j < li.length by rw [HN2.out]; exact hlj))
              obtain ⟨x, hx⟩ : ∃ x : Nat, (li[j]'(by rw [HN2.out]; exact hlj)) = (x : Int) := ⟨_, (Int.toNat_of_nonneg hin.1).symm⟩
              rw [hx] at hin hc2
              have hxn : x < n := by omega
              have g2 := (HQ2.out.below.cell (p := ⟨bk2, o2 + j, none⟩) hbk2).trans hc2
              have g3 := HQ2.out.row.cell hxn
              have hnx : anyB (li.take (j + 1)) C = (anyB (li.take j) C || C x) := by
                unfold anyB
                rw [List.take_succ_eq_append_getElem (show j < li.length by rw [HN2.out]; exact hlj), List.any_append, hx]
                simp
              obtain ⟨ba, hba⟩ : ∃ b, anyB (li.take j) C = b := ⟨_, rfl⟩
              rw [hba] at hnx ⊢
              have HX2 := Lib.hid hnx
              clear hin hx hc2 hba hnx
              cases ba with
              | true =>
                go_wp2
                go_roundw
                case rel => exact ⟨j + 1, by omega, by go_num, trivial, by rw [HX2.out]; rfl⟩
                case measure => simp [intOf]; omega
              | false =>
                go_wp2
                go_roundw
                case rel => exact ⟨j + 1, by omega, by go_num, trivial, by rw [HX2.out, Bool.false_or]⟩
                case measure => simp [intOf]; omega
            · have hje : j = n2 := by omega
              subst hje
              obtain ⟨ba, hba⟩ : ∃ b, anyB (li.take j) C = b := ⟨_, rfl⟩
              obtain ⟨lb, hlb⟩ : ∃ b, leavesB p e k ba = b := ⟨_, rfl⟩
              have hst : bstep p e C k = fun i => if i = k then lb else C i := by
                unfold bstep
                rw [HLI.out, ← hlb, ← hba, ← HN2.out, List.take_length]
              have HST := Lib.hid hst
              have hC1 := HLV.out wr HQ2.out.below k ba
              rw [hlb] at hC1
              have HC1 := Lib.hid hC1
              unfold pbV at HC1
              rw [hba]
              clear hst hlb hba hC1
              go_wp2_with fail
              refine HC1.out.mono ?_
              rintro x w2 ⟨rfl, hb2⟩
              have HQ3 : Hid (Rs w w2 H n (.slice (some ⟨bk, o, none⟩) n cs) vg vk (.slice Ae l ce) wd C) := HQ2.out.next hb2
              have g3 := HQ3.out.row.cell hlk
              have g4 := HQ3.out.row.free k
              have HR2 : Hid (Rs w (w2.setCell ⟨H + 1, k, none⟩ (.bool lb)) H n (.slice (some ⟨bk, o, none⟩) n cs) vg vk (.slice Ae l ce) wd (bpass p e (k + 1) (brounds p e r))) := by
                show Rs _ _ _ _ _ _ _ _ _ _
                rw [HNX.out, HST.out]
                exact HQ3.out.put hlk lb
              clear HQ2 HQ3 HC1 hb2 HNX HST
              go_wp2
              go_roundw
              case rel => exact ⟨k + 1, by omega, by go_num, HR2⟩
              case measure => simp [intOf]; omega
        · have hke : k = n := by omega
          subst hke
          have HR1 : Hid (Rs w wr H k (.slice As k cs) vg vk (.slice Ae l ce) wd (brounds p e (r + 1))) := by
            show Rs _ _ _ _ _ _ _ _ _ (bpass p e p.succ.length (brounds p e r))
            rw [HN.out]
            exact HQ.out
          clear HQ
          go_wp2
          go_roundw
          case rel => exact ⟨r + 1, by omega, by go_num, HR1⟩
          case measure => simp [intOf]; omega
    · have hre : r = n + 1 := by omega
      subst hre
      have q := HQ.out
      go_wp2
      go_ret
      exact ⟨H + 1, rfl, q.row, q.below⟩
end Fl
end Go.Proofs.YtbeepedobnaojaaDoor
