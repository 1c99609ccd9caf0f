/- The reference: Forward. -/
import Derived.Test.YtbeepedobnaojaaDoorFlowN
namespace Go.Proofs.YtbeepedobnaojaaDoor
open Go.RowKit Lf Go.Deep Sv Tr
namespace Fl
/-- A row of bools. -/
def BRow (w : World) (b n : Nat) (C : Nat → Bool) : Prop := ∃ cs, Is w b 4 cs ∧ ∀ i, i < n → cs[i]? = some (.bool (C i))
section
variable {w w' : World} {b n : Nat} {C D : Nat → Bool}
theorem BRow.cell (h : BRow w b n C) {i : Nat} (hi : i < n) : w.cell? ⟨b, i, none⟩ = some (.bool (C i)) := by
  obtain ⟨cs, h1, h2⟩ := h
  rw [h1.at_, h2 i hi]
theorem BRow.free (h : BRow w b n C) (i : Nat) : w.frozen? ⟨b, i, none⟩ = false := by
  obtain ⟨cs, h1, _⟩ := h
  exact h1.free i
theorem BRow.lt (h : BRow w b n C) : b < w.heap.size := by
  obtain ⟨cs, h1, _⟩ := h
  exact h1.lt
theorem BRow.below (h : BRow w b n C) (hb : Below w.heap.size w w') : BRow w' b n C := by
  obtain ⟨cs, h1, h2⟩ := h
  exact ⟨cs, h1.below hb h1.lt, h2⟩
theorem BRow.congr (h : BRow w b n C) (hc : ∀ i, i < n → C i = D i) : BRow w b n D := by
  obtain ⟨cs, h1, h2⟩ := h
  exact ⟨cs, h1, fun i hi => by rw [h2 i hi, hc i hi]⟩
theorem BRow.put (h : BRow w b n C) {x : Nat} (_ : x < n) (v : Bool) : BRow (w.setCell ⟨b, x, none⟩ (.bool v)) b n fun j => if j = x then v else C j := by
  obtain ⟨cs, h1, h2⟩ := h
  refine ⟨_, h1.put x _, fun i hi => ?_⟩
  rw [Array.getElem?_setIfInBounds]
  by_cases hix : x = i
  · subst hix
    have := h2 x hi
    rw [if_pos rfl, if_pos (Array.getElem?_eq_some_iff.1 this).1]
    simp
  · rw [if_neg hix, h2 i hi]
    simp [show i ≠ x from fun e => hix e.symm]
end
/-- The state of the reference's rounds. -/
structure Rs (w wr : World) (H n : Nat) (vs vg vk ve : Value) (wd : Int) (C : Nat → Bool) : Prop where
  below : Below H w wr
  box : Is wr H 25 #[vs, .int .i64 wd, vg, vk, ve]
  row : BRow wr (H + 1) n C
section
variable {w wr wr' : World} {H n : Nat} {vs vg vk ve : Value} {wd : Int} {C D : Nat → Bool}
theorem Rs.next (h : Rs w wr H n vs vg vk ve wd C) (hb : Below wr.heap.size wr wr') : Rs w wr' H n vs vg vk ve wd C :=
  ⟨h.below.trans (hb.mono (Nat.le_of_lt h.box.lt)), h.box.below hb h.box.lt, h.row.below hb⟩
theorem Rs.put (h : Rs w wr H n vs vg vk ve wd C) {x : Nat} (hx : x < n) (v : Bool) : Rs w (wr.setCell ⟨H + 1, x, none⟩ (.bool v)) H n vs vg vk ve wd fun j => if j = x then v else C j :=
  ⟨h.below.setCell (Nat.le_succ H) _, h.box.aside (by show H ≠ H + 1; omega) _, h.row.put hx v⟩
theorem Rs.congr (h : Rs w wr H n vs vg vk ve wd C) (hc : ∀ i, i < n → C i = D i) : Rs w wr H n vs vg vk ve wd D := ⟨h.below, h.box, h.row.congr hc⟩
end
theorem made_bool (n : Nat) : ∀ i, i < n → (madeCells #[.bool false] n)[i]? = some (.bool false) := fun i hi => by simp [madeCells, hi, Nat.mod_one]
theorem info_bool : (Tryd.prog.info? 4).map (fun i => (i.zero, i.size, i.bytes)) = some (some (.bool false), 1, 1) := by kernel_rfl
theorem entry_has (l : List Int) (e : Int) : hasL [l] 0 e = l.contains e := rfl
set_option maxHeartbeats 8000000 in
set_option maxRecDepth 100000 in
theorem forward_ref {w : World} {vs vg vk ve : Value} {p : Pb} (h : PbAt w vs vg vk ve p) (ho : codeP p = 0) (hn : p.succ.length ≤ 64) (e : Int) :
    Calls Tryd.prog 15 #[pbV vs vg vk ve p.width, .int .i64 e] w fun x w' =>
      ∃ rb, x = .returned (.slice (some ⟨rb, 0, none⟩) p.succ.length p.succ.length) ∧ BRow w' rb p.succ.length (frounds p e (p.succ.length + 1)) ∧ Below w.heap.size w w' := by
  have hok := code_ok hn ho
  obtain ⟨n, hn0⟩ : ∃ n, p.succ.length = n := ⟨_, rfl⟩
  have hmk := run_make_row' (P := Tryd.prog) 59 4 (.bool false) 1 Tryd.underlying59 info_bool rfl .i64 .i64 n (by omega) (by omega)
  obtain ⟨V, hV⟩ : ∃ V, (w.alloc (.cells #[vs, .int .i64 p.width, vg, vk, ve] 25)).alloc (.cells (madeCells #[.bool false] n) 4) = V := ⟨_, rfl⟩
  have hR : Rs w V w.heap.size n vs vg vk ve p.width fun _ => false := by
    subst hV
    refine ⟨((Below.refl _ w).alloc (Nat.le_refl _) _).alloc (by simp) _, (Is.made w _ _).alloc _, _, ?_, made_bool n⟩
    have := Is.made (w.alloc (.cells #[vs, .int .i64 p.width, vg, vk, ve] 25)) 4 (madeCells #[.bool false] n)
    simpa using this
  obtain ⟨As, cs, rfl, hmaxs, hgets⟩ := h.s.form
  have hHE := fun (W : World) (hb : Below w.heap.size w W) => has_ref (one_row (h.e.below hb)) 0 e
  have hLV := fun (W : World) (hb : Below w.heap.size w W) (i : Nat) (b : Bool) => leaves_ref (h.below hb) i e b
  obtain ⟨Ae, ce, rfl, _⟩ := h.e
  obtain ⟨l, hl⟩ : ∃ n, p.entry.length = n := ⟨_, rfl⟩
  obtain ⟨be, hbe⟩ : ∃ b, p.entry.contains e = b := ⟨_, rfl⟩
  simp only [entry_has, hbe] at hHE
  obtain ⟨wd, hwd⟩ : ∃ c, p.width = c := ⟨_, rfl⟩
  have hHV : w.heap.size + 1 < V.heap.size := hR.row.lt
  obtain ⟨H, hH⟩ : ∃ x, w.heap.size = x := ⟨_, rfl⟩
  simp only [hn0, hl, hwd, hH] at hn hV hR hHE hLV hHV ⊢
  have HN := Lib.hid hn0
  have HH := Lib.hid hH
  have HV := Lib.hid hV
  have HR := Lib.hid hR
  have HHE := Lib.hid hHE
  have HLV := Lib.hid hLV
  have HG := Lib.hid hgets
  have HS := Lib.hid hok.s
  have HBE := Lib.hid hbe
  have d0 := hR.box.at_ 0
  have d4 := hR.box.at_ 4
  simp at d0 d4
  have e0 : (w.alloc (.cells #[.slice As n cs, .int .i64 wd, vg, vk, .slice Ae l ce] 25)).cell? ⟨H, 0, none⟩ = some (.slice As n cs) := by
    rw [← hH, (Is.made w 25 _).at_]; rfl
  clear hgets hHE hLV hl hwd hbe hn0 hV hR ho hok h
  unfold pbV
  by_cases h0 : 0 < n
  · have hd : decide ((0 : Int) < (n : Int)) = true := decide_eq_true (by omega)
    have hVs : V.heap.size = H + 1 + 1 := by
      have h1 := congrArg (fun x : World => x.heap.size) HV.out
      have h2 := HH.out
      simp at h1
      omega
    have hHE1 := HHE.out V HR.out.below
    rw [hVs] at hHE1
    have HHE1 := Lib.hid hHE1
    clear hHE1 hVs
    go_enter Tryd.func15, Tryd.ntmps15
    go_wp2_with fail
    rw [HV.out]
    refine HHE1.out.mono ?_
    rintro x w1 ⟨rfl, q, rfl⟩
    have HR1 : Hid (Rs w ((V.alloc (.cells #[.slice Ae l ce] 23)).drewN q) H n (.slice As n cs) vg vk (.slice Ae l ce) wd fun _ => false) := HR.out.next (below_then ((Below.refl _ V).alloc (Nat.le_refl _) _) q)
    obtain ⟨W1, hW1⟩ : ∃ W1, (V.alloc (.cells #[.slice Ae l ce] 23)).drewN q = W1 := ⟨_, rfl⟩
    rw [hW1] at HR1 ⊢
    clear hW1
    cases be with
    | true =>
      have k1 := HR1.out.row.cell h0
      have k2 := HR1.out.row.free 0
      have HR0 : Hid (Rs w (W1.setCell ⟨H + 1, 0, none⟩ (.bool true)) H n (.slice As n cs) vg vk (.slice Ae l ce) wd (frounds p e 0)) := (HR1.out.put h0 true).congr fun i _ => by
        unfold frounds fstart
        rw [HN.out, HBE.out, decide_eq_true h0]
        by_cases hi : i = 0 <;> simp [hi]
      clear HR1 HHE1
      clear e0 d0 d4 HHE
      go_wp2
      clear k1 k2
      go_loopw [7] (fun i wr => ∃ r : Nat, r ≤ n + 1 ∧ i = .int .i64 r ∧ Hid (Rs w wr H n (.slice As n cs) vg vk (.slice Ae l ce) wd (frounds p e r))) (fun i _ => n + 1 - (intOf i).toNat)
      case atStart => exact ⟨0, Nat.zero_le _, rfl, HR0⟩
      clear HR0
      case round =>
        obtain ⟨r, hr, rfl, HQ⟩ := hrel
        by_cases hlr : r < n + 1
        · have HQ1 : Hid (Rs w wr H n (.slice As n cs) vg vk (.slice Ae l ce) wd (fpass p e 0 (frounds p e r))) := HQ
          have hrn : decide (r ≤ n) = true := decide_eq_true (by omega)
          clear HQ
          go_wp2
          clear hrn
          go_loopw [8] (fun i wr => ∃ k : Nat, k ≤ n ∧ i = .int .i64 k ∧ Hid (Rs w wr H n (.slice As n cs) vg vk (.slice Ae l ce) wd (fpass p e k (frounds p e r)))) (fun i _ => n - (intOf i).toNat)
          case atStart => exact ⟨0, Nat.zero_le _, rfl, HQ1⟩
          clear HQ1
          case round =>
            obtain ⟨k, hk, rfl, HQ⟩ := hrel
            by_cases hlk : k < n
            · have q := HQ.out
              have c1 := q.row.cell hlk
              obtain ⟨C, hC⟩ : ∃ C, fpass p e k (frounds p e r) = C := ⟨_, rfl⟩
              have hsucc : fpass p e (k + 1) (frounds p e r) = fstep p e C k := by rw [fpass_succ, hC]
              rw [hC] at q c1
              have HNX := Lib.hid hsucc
              obtain ⟨lb, hlb⟩ : ∃ b, leavesB p e k (C k) = b := ⟨_, rfl⟩
              have HLB := Lib.hid hlb
              obtain ⟨ck, hck⟩ : ∃ b, C k = b := ⟨_, rfl⟩
              rw [hck] at c1 hlb
              have HC1 := Lib.hid (HLV.out wr.drew q.below.drew k ck)
              rw [hlb] at HC1
              have b0 := q.box.at_ 0
              have b1 := q.box.at_ 1
              have b2 := q.box.at_ 2
              have b3 := q.box.at_ 3
              have b4 := q.box.at_ 4
              simp at b0 b1 b2 b3 b4
              have HQ2 : Hid (Rs w wr H n (.slice As n cs) vg vk (.slice Ae l ce) wd C) := q
              clear HQ q hC hsucc hlb hck
              unfold pbV at HC1
              go_wp2_with fail
              go_region_law ((go_simp; go_at_call 33; refine HC1.out.mono ?_; rintro x w2 ⟨rfl, hb2⟩))
              all_goals
                simp only [List.getElem_toArray, List.getElem_cons_zero, List.getElem_cons_succ, Act.put, List.setIfInBounds_toArray, List.set_cons_zero, List.set_cons_succ]
                have HQ3 : Hid (Rs w w2 H n (.slice As n cs) vg vk (.slice Ae l ce) wd C) := HQ2.out.next (((Below.refl _ wr).drew).trans hb2)
                clear HQ2 HC1 hb2 b0 b1 b2 b3 b4 c1
                cases lb with
                | false =>
                  have HR : Hid (Rs w w2 H n (.slice As n cs) vg vk (.slice Ae l ce) wd (fpass p e (k + 1) (frounds p e r))) := by
                    show Rs _ _ _ _ _ _ _ _ _ _
                    rw [HNX.out]
                    unfold fstep
                    rw [HLB.out]
                    exact HQ3.out
                  clear HNX HLB HQ3
                  go_wp2
                  go_roundw
                  case rel => exact ⟨k + 1, by omega, by go_num, HR⟩
                  case measure => simp [intOf]; omega
                | true =>
                  obtain ⟨bk, o, u, rfl, hbk, hcell, hrow⟩ := HG.out k (by rw [HN.out]; exact hlk)
                  obtain ⟨A2, c2, rfl, hmax2, hget2⟩ := rowI_form hrow
                  obtain ⟨li, hli⟩ : ∃ x, (p.succ[k]'(by rw [HN.out]; exact hlk)) = x := ⟨_, rfl⟩
                  rw [hli] at hcell hmax2 hget2
                  have HLI : Hid (p.succ.getD k [] = li) := by show _ = _; rw [getD_at (by rw [HN.out]; exact hlk), hli]
                  have HLO : Hid (∀ x ∈ li, 0 ≤ x ∧ x < (n : Int)) := fun x hx => by
                    have := row_ok HS.out (HLI.out.symm ▸ hx : x ∈ p.succ.getD k [])
                    rw [HN.out] at this
                    exact this
                  obtain ⟨n2, hn2⟩ : ∃ x, li.length = x := ⟨_, rfl⟩
                  have HN2 := Lib.hid hn2
                  have HG2 := Lib.hid hget2
                  rw [hn2] at hcell hmax2
                  unfold maxLen at hmax2
                  rw [HH.out] at hbk
                  have q3 := HQ3.out
                  have g1 := (q3.below.cell (p := ⟨bk, o + k, none⟩) hbk).trans hcell
                  have b0 := q3.box.at_ 0
                  simp at b0
                  have HQ4 : Hid (Rs w w2 H n (.slice (some ⟨bk, o, none⟩) n cs) vg vk (.slice Ae l ce) wd (setAll (li.take 0) C)) := HQ3.out.congr fun i _ => by simp [setAll]
                  clear hrow hget2 hli hn2 HQ3 q3
                  go_wp2
                  go_loopw [9] (fun i wr => ∃ j : Nat, j ≤ n2 ∧ i = .int .i64 j ∧ Hid (Rs w wr H n (.slice (some ⟨bk, o, none⟩) n cs) vg vk (.slice Ae l ce) wd (setAll (li.take j) C))) (fun i _ => n2 - (intOf i).toNat)
                  case atStart => exact ⟨0, Nat.zero_le _, rfl, HQ4⟩
                  clear HQ4 b0 g1
                  case round =>
                    obtain ⟨j, hj, rfl, HQ⟩ := hrel
                    have q4 := HQ.out
                    have b0 := q4.box.at_ 0
                    simp at b0
                    have g1 := (q4.below.cell (p := ⟨bk, o + k, none⟩) hbk).trans hcell
                    by_cases hlj : j < n2
                    · obtain ⟨bk2, o2, rfl, hbk2, hc2⟩ := HG2.out j (by rw [HN2.out]; exact hlj)
                      rw [HH.out] at hbk2
                      have hin := HLO.out _ (List.getElem_mem (show j < li.length by rw [HN2.out]; exact hlj))
                      obtain ⟨x, hx⟩ : ∃ x : Nat, (li[j]'(by rw [HN2.out]; exact hlj)) = (x : Int) := ⟨_, (Int.toNat_of_nonneg hin.1).symm⟩
                      rw [hx] at hin hc2
                      have hxn : x < n := by omega
                      have g2 := (q4.below.cell (p := ⟨bk2, o2 + j, none⟩) hbk2).trans hc2
                      have g3 := q4.row.cell hxn
                      have g4 := q4.row.free x
                      have HR : Hid (Rs w (wr.setCell ⟨H + 1, x, none⟩ (.bool true)) H n (.slice (some ⟨bk, o, none⟩) n cs) vg vk (.slice Ae l ce) wd (setAll (li.take (j + 1)) C)) := (q4.put hxn true).congr fun i _ => by
                        unfold setAll
                        rw [List.take_succ_eq_append_getElem (show j < li.length by rw [HN2.out]; exact hlj), hx]
                        by_cases hix : i = x
                        · subst hix; simp
                        · rw [if_neg hix]
                          have : (List.take j li ++ [(x : Int)]).contains (i : Int) = (List.take j li).contains (i : Int) := by
                            rw [Bool.eq_iff_iff]
                            simp only [List.contains_iff_mem, List.mem_append, List.mem_singleton]
                            exact ⟨fun h => h.resolve_right (by omega), .inl⟩
                          rw [this]
                      clear HQ q4 hin hx hc2
                      go_wp2
                      go_roundw
                      case rel => exact ⟨j + 1, by omega, by go_num, HR⟩
                      case measure => simp [intOf]; omega
                    · have hje : j = n2 := by omega
                      subst hje
                      have HR : Hid (Rs w wr H n (.slice (some ⟨bk, o, none⟩) n cs) vg vk (.slice Ae l ce) wd (fpass p e (k + 1) (frounds p e r))) := by
                        show Rs _ _ _ _ _ _ _ _ _ _
                        rw [HNX.out]
                        unfold fstep
                        rw [HLB.out, HLI.out]
                        have := q4
                        rw [← HN2.out, List.take_length] at this
                        exact this
                      clear HQ q4 HNX HLB
                      go_wp2
                      go_roundw
                      case rel => exact ⟨k + 1, by omega, by go_num, HR⟩
                      case measure => simp [intOf]; omega
            · have hke : k = n := by omega
              subst hke
              have HR : Hid (Rs w wr H k (.slice As k cs) vg vk (.slice Ae l ce) wd (frounds p e (r + 1))) := by
                show Rs _ _ _ _ _ _ _ _ _ (fpass p e p.succ.length (frounds p e r))
                rw [HN.out]
                exact HQ.out
              clear HQ
              go_wp2
              go_roundw
              case rel => exact ⟨r + 1, by omega, by go_num, HR⟩
              case measure => simp [intOf]; omega
        · have hre : r = n + 1 := by omega
          subst hre
          have q := HQ.out
          go_wp2
          go_ret
          exact ⟨H + 1, rfl, q.row, q.below⟩
    | false =>
      have HR0 : Hid (Rs w W1 H n (.slice As n cs) vg vk (.slice Ae l ce) wd (frounds p e 0)) := HR1.out.congr fun i _ => by
        unfold frounds fstart
        rw [HBE.out, Bool.and_false, Bool.and_false]
      clear HR1 HHE1
      clear e0 d0 d4 HHE
      go_wp2
      go_loopw [7] (fun i wr => ∃ r : Nat, r ≤ n + 1 ∧ i = .int .i64 r ∧ Hid (Rs w wr H n (.slice As n cs) vg vk (.slice Ae l ce) wd (frounds p e r))) (fun i _ => n + 1 - (intOf i).toNat)
      case atStart => exact ⟨0, Nat.zero_le _, rfl, HR0⟩
      clear HR0
      case round =>
        obtain ⟨r, hr, rfl, HQ⟩ := hrel
        by_cases hlr : r < n + 1
        · have HQ1 : Hid (Rs w wr H n (.slice As n cs) vg vk (.slice Ae l ce) wd (fpass p e 0 (frounds p e r))) := HQ
          have hrn : decide (r ≤ n) = true := decide_eq_true (by omega)
          clear HQ
          go_wp2
          clear hrn
          go_loopw [8] (fun i wr => ∃ k : Nat, k ≤ n ∧ i = .int .i64 k ∧ Hid (Rs w wr H n (.slice As n cs) vg vk (.slice Ae l ce) wd (fpass p e k (frounds p e r)))) (fun i _ => n - (intOf i).toNat)
          case atStart => exact ⟨0, Nat.zero_le _, rfl, HQ1⟩
          clear HQ1
          case round =>
            obtain ⟨k, hk, rfl, HQ⟩ := hrel
            by_cases hlk : k < n
            · have q := HQ.out
              have c1 := q.row.cell hlk
              obtain ⟨C, hC⟩ : ∃ C, fpass p e k (frounds p e r) = C := ⟨_, rfl⟩
              have hsucc : fpass p e (k + 1) (frounds p e r) = fstep p e C k := by rw [fpass_succ, hC]
              rw [hC] at q c1
              have HNX := Lib.hid hsucc
              obtain ⟨lb, hlb⟩ : ∃ b, leavesB p e k (C k) = b := ⟨_, rfl⟩
              have HLB := Lib.hid hlb
              obtain ⟨ck, hck⟩ : ∃ b, C k = b := ⟨_, rfl⟩
              rw [hck] at c1 hlb
              have HC1 := Lib.hid (HLV.out wr.drew q.below.drew k ck)
              rw [hlb] at HC1
              have b0 := q.box.at_ 0
              have b1 := q.box.at_ 1
              have b2 := q.box.at_ 2
              have b3 := q.box.at_ 3
              have b4 := q.box.at_ 4
              simp at b0 b1 b2 b3 b4
              have HQ2 : Hid (Rs w wr H n (.slice As n cs) vg vk (.slice Ae l ce) wd C) := q
              clear HQ q hC hsucc hlb hck
              unfold pbV at HC1
              go_wp2_with fail
              go_region_law ((go_simp; go_at_call 33; refine HC1.out.mono ?_; rintro x w2 ⟨rfl, hb2⟩))
              all_goals
                simp only [List.getElem_toArray, List.getElem_cons_zero, List.getElem_cons_succ, Act.put, List.setIfInBounds_toArray, List.set_cons_zero, List.set_cons_succ]
                have HQ3 : Hid (Rs w w2 H n (.slice As n cs) vg vk (.slice Ae l ce) wd C) := HQ2.out.next (((Below.refl _ wr).drew).trans hb2)
                clear HQ2 HC1 hb2 b0 b1 b2 b3 b4 c1
                cases lb with
                | false =>
                  have HR : Hid (Rs w w2 H n (.slice As n cs) vg vk (.slice Ae l ce) wd (fpass p e (k + 1) (frounds p e r))) := by
                    show Rs _ _ _ _ _ _ _ _ _ _
                    rw [HNX.out]
                    unfold fstep
                    rw [HLB.out]
                    exact HQ3.out
                  clear HNX HLB HQ3
                  go_wp2
                  go_roundw
                  case rel => exact ⟨k + 1, by omega, by go_num, HR⟩
                  case measure => simp [intOf]; omega
                | true =>
                  obtain ⟨bk, o, u, rfl, hbk, hcell, hrow⟩ := HG.out k (by rw [HN.out]; exact hlk)
                  obtain ⟨A2, c2, rfl, hmax2, hget2⟩ := rowI_form hrow
                  obtain ⟨li, hli⟩ : ∃ x, (p.succ[k]'(by rw [HN.out]; exact hlk)) = x := ⟨_, rfl⟩
                  rw [hli] at hcell hmax2 hget2
                  have HLI : Hid (p.succ.getD k [] = li) := by show _ = _; rw [getD_at (by rw [HN.out]; exact hlk), hli]
                  have HLO : Hid (∀ x ∈ li, 0 ≤ x ∧ x < (n : Int)) := fun x hx => by
                    have := row_ok HS.out (HLI.out.symm ▸ hx : x ∈ p.succ.getD k [])
                    rw [HN.out] at this
                    exact this
                  obtain ⟨n2, hn2⟩ : ∃ x, li.length = x := ⟨_, rfl⟩
                  have HN2 := Lib.hid hn2
                  have HG2 := Lib.hid hget2
                  rw [hn2] at hcell hmax2
                  unfold maxLen at hmax2
                  rw [HH.out] at hbk
                  have q3 := HQ3.out
                  have g1 := (q3.below.cell (p := ⟨bk, o + k, none⟩) hbk).trans hcell
                  have b0 := q3.box.at_ 0
                  simp at b0
                  have HQ4 : Hid (Rs w w2 H n (.slice (some ⟨bk, o, none⟩) n cs) vg vk (.slice Ae l ce) wd (setAll (li.take 0) C)) := HQ3.out.congr fun i _ => by simp [setAll]
                  clear hrow hget2 hli hn2 HQ3 q3
                  go_wp2
                  go_loopw [9] (fun i wr => ∃ j : Nat, j ≤ n2 ∧ i = .int .i64 j ∧ Hid (Rs w wr H n (.slice (some ⟨bk, o, none⟩) n cs) vg vk (.slice Ae l ce) wd (setAll (li.take j) C))) (fun i _ => n2 - (intOf i).toNat)
                  case atStart => exact ⟨0, Nat.zero_le _, rfl, HQ4⟩
                  clear HQ4 b0 g1
                  case round =>
                    obtain ⟨j, hj, rfl, HQ⟩ := hrel
                    have q4 := HQ.out
                    have b0 := q4.box.at_ 0
                    simp at b0
                    have g1 := (q4.below.cell (p := ⟨bk, o + k, none⟩) hbk).trans hcell
                    by_cases hlj : j < n2
                    · obtain ⟨bk2, o2, rfl, hbk2, hc2⟩ := HG2.out j (by rw [HN2.out]; exact hlj)
                      rw [HH.out] at hbk2
                      have hin := HLO.out _ (List.getElem_mem (show j < li.length by rw [HN2.out]; exact hlj))
                      obtain ⟨x, hx⟩ : ∃ x : Nat, (li[j]'(by rw [HN2.out]; exact hlj)) = (x : Int) := ⟨_, (Int.toNat_of_nonneg hin.1).symm⟩
                      rw [hx] at hin hc2
                      have hxn : x < n := by omega
                      have g2 := (q4.below.cell (p := ⟨bk2, o2 + j, none⟩) hbk2).trans hc2
                      have g3 := q4.row.cell hxn
                      have g4 := q4.row.free x
                      have HR : Hid (Rs w (wr.setCell ⟨H + 1, x, none⟩ (.bool true)) H n (.slice (some ⟨bk, o, none⟩) n cs) vg vk (.slice Ae l ce) wd (setAll (li.take (j + 1)) C)) := (q4.put hxn true).congr fun i _ => by
                        unfold setAll
                        rw [List.take_succ_eq_append_getElem (show j < li.length by rw [HN2.out]; exact hlj), hx]
                        by_cases hix : i = x
                        · subst hix; simp
                        · rw [if_neg hix]
                          have : (List.take j li ++ [(x : Int)]).contains (i : Int) = (List.take j li).contains (i : Int) := by
                            rw [Bool.eq_iff_iff]
                            simp only [List.contains_iff_mem, List.mem_append, List.mem_singleton]
                            exact ⟨fun h => h.resolve_right (by omega), .inl⟩
                          rw [this]
                      clear HQ q4 hin hx hc2
                      go_wp2
                      go_roundw
                      case rel => exact ⟨j + 1, by omega, by go_num, HR⟩
                      case measure => simp [intOf]; omega
                    · have hje : j = n2 := by omega
                      subst hje
                      have HR : Hid (Rs w wr H n (.slice (some ⟨bk, o, none⟩) n cs) vg vk (.slice Ae l ce) wd (fpass p e (k + 1) (frounds p e r))) := by
                        show Rs _ _ _ _ _ _ _ _ _ _
                        rw [HNX.out]
                        unfold fstep
                        rw [HLB.out, HLI.out]
                        have := q4
                        rw [← HN2.out, List.take_length] at this
                        exact this
                      clear HQ q4 HNX HLB
                      go_wp2
                      go_roundw
                      case rel => exact ⟨k + 1, by omega, by go_num, HR⟩
                      case measure => simp [intOf]; omega
            · have hke : k = n := by omega
              subst hke
              have HR : Hid (Rs w wr H k (.slice As k cs) vg vk (.slice Ae l ce) wd (frounds p e (r + 1))) := by
                show Rs _ _ _ _ _ _ _ _ _ (fpass p e p.succ.length (frounds p e r))
                rw [HN.out]
                exact HQ.out
              clear HQ
              go_wp2
              go_roundw
              case rel => exact ⟨r + 1, by omega, by go_num, HR⟩
              case measure => simp [intOf]; omega
        · have hre : r = n + 1 := by omega
          subst hre
          have q := HQ.out
          go_wp2
          go_ret
          exact ⟨H + 1, rfl, q.row, q.below⟩
  · have hd : decide ((0 : Int) < (n : Int)) = false := decide_eq_false (by omega)
    have HR0 : Hid (Rs w ((w.alloc (.cells #[.slice As n cs, .int .i64 wd, vg, vk, .slice Ae l ce] 25)).alloc (.cells (madeCells #[.bool false] n) 4)) H n (.slice As n cs) vg vk (.slice Ae l ce) wd (frounds p e 0)) := by
      show Rs _ _ _ _ _ _ _ _ _ _
      rw [HV.out]
      exact HR.out.congr fun i hi => absurd hi (by omega)
    go_enter Tryd.func15, Tryd.ntmps15
    go_wp2
    clear e0 d0 d4 HHE
    go_loopw [7] (fun i wr => ∃ r : Nat, r ≤ n + 1 ∧ i = .int .i64 r ∧ Hid (Rs w wr H n (.slice As n cs) vg vk (.slice Ae l ce) wd (frounds p e r))) (fun i _ => n + 1 - (intOf i).toNat)
    case atStart => exact ⟨0, Nat.zero_le _, rfl, HR0⟩
    clear HR0
    case round =>
      obtain ⟨r, hr, rfl, HQ⟩ := hrel
      by_cases hlr : r < n + 1
      · have HQ1 : Hid (Rs w wr H n (.slice As n cs) vg vk (.slice Ae l ce) wd (fpass p e 0 (frounds p e r))) := HQ
        have hrn : decide (r ≤ n) = true := decide_eq_true (by omega)
        clear HQ
        go_wp2
        clear hrn
        go_loopw [8] (fun i wr => ∃ k : Nat, k ≤ n ∧ i = .int .i64 k ∧ Hid (Rs w wr H n (.slice As n cs) vg vk (.slice Ae l ce) wd (fpass p e k (frounds p e r)))) (fun i _ => n - (intOf i).toNat)
        case atStart => exact ⟨0, Nat.zero_le _, rfl, HQ1⟩
        clear HQ1
        case round =>
          obtain ⟨k, hk, rfl, HQ⟩ := hrel
          by_cases hlk : k < n
          · omega
          · have hke : k = n := by omega
            subst hke
            have HR : Hid (Rs w wr H k (.slice As k cs) vg vk (.slice Ae l ce) wd (frounds p e (r + 1))) := by
              show Rs _ _ _ _ _ _ _ _ _ (fpass p e p.succ.length (frounds p e r))
              rw [HN.out]
              exact HQ.out
            clear HQ
            go_wp2
            go_roundw
            case rel => exact ⟨r + 1, by omega, by go_num, HR⟩
            case measure => simp [intOf]; omega
      · have hre : r = n + 1 := by omega
        subst hre
        have q := HQ.out
        go_wp2
        go_ret
        exact ⟨H + 1, rfl, q.row, q.below⟩
end Fl
end Go.Proofs.YtbeepedobnaojaaDoor
