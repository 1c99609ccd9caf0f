/- The walk of FlowWays. -/
import Derived.Test.YtbeepedobnaojaaDoorFlowV
namespace Go.Proofs.YtbeepedobnaojaaDoor
open Go.RowKit Lf Go.Deep Sv Tr
namespace Fl
/-- What the law's loops have come to. -/
def Wj (p : Pb) (e : Int) (to : Nat) : Nat → Bool := fun f => way p e 7 f to
def Ae (p : Pb) (e : Int) (to k : Nat) : Bool := (p.entry.take k).any fun x => x == e && way p e 7 0 to
def Gi (p : Pb) (e : Int) (to i : Nat) : Bool := hasL p.gen i e && anyB (p.succ.getD i []) (Wj p e to)
def Ai (p : Pb) (e : Int) (to i : Nat) : Bool := Ae p e to p.entry.length || (List.range i).any fun q => Gi p e to q
def Bk (p : Pb) (e : Int) (to i k : Nat) : Bool := Ai p e to i || (((p.gen.getD i []).take k).contains e && anyB (p.succ.getD i []) (Wj p e to))
def Cj (p : Pb) (e : Int) (to i k j : Nat) : Bool := Bk p e to i k || anyB ((p.succ.getD i []).take j) (Wj p e to)
theorem ae_next {p : Pb} {e : Int} {to k : Nat} {x : Int} (h : p.entry[k]? = some x) : Ae p e to (k + 1) = (Ae p e to k || (x == e && way p e 7 0 to)) := by
  unfold Ae
  rw [List.take_add_one, h, List.any_append]
  simp
theorem ai_zero (p : Pb) (e : Int) (to : Nat) : Ai p e to 0 = Ae p e to p.entry.length := by unfold Ai; simp
theorem bk_zero (p : Pb) (e : Int) (to i : Nat) : Bk p e to i 0 = Ai p e to i := by unfold Bk; simp
theorem bk_end {p : Pb} {e : Int} {to i k : Nat} (hk : k = (p.gen.getD i []).length) : Bk p e to i k = Ai p e to (i + 1) := by
  subst hk
  unfold Bk Ai Gi hasL
  rw [List.take_length, List.range_succ, List.any_append]
  simp [Bool.or_assoc]
theorem cj_zero (p : Pb) (e : Int) (to i k : Nat) : Cj p e to i k 0 = Bk p e to i k := by unfold Cj anyB; simp
theorem cj_end {p : Pb} {e : Int} {to i k j : Nat} (hj : j = (p.succ.getD i []).length) (hx : (p.gen.getD i [])[k]? = some e) : Cj p e to i k j = Bk p e to i (k + 1) := by
  subst hj
  unfold Cj Bk
  rw [List.take_length, List.take_add_one, hx]
  have : ((List.take k (p.gen.getD i []) ++ (some e).toList).contains e) = true := by simp
  rw [this]
  cases Ai p e to i <;> cases (List.take k (p.gen.getD i [])).contains e <;> simp
theorem bk_skip {p : Pb} {e : Int} {to i k : Nat} {x : Int} (hx : (p.gen.getD i [])[k]? = some x) (hne : x ≠ e) : Bk p e to i (k + 1) = Bk p e to i k := by
  unfold Bk
  rw [List.take_add_one, hx]
  have : ((List.take k (p.gen.getD i []) ++ (some x).toList).contains e) = (List.take k (p.gen.getD i [])).contains e := by
    rw [Bool.eq_iff_iff]
    simp only [List.contains_iff_mem, List.mem_append, Option.toList, List.mem_singleton]
    exact ⟨fun h => h.resolve_right fun h => hne h.symm, .inl⟩
  rw [this]
theorem cj_next {p : Pb} {e : Int} {to i k j f : Nat} (h : (p.succ.getD i [])[j]? = some (f : Int)) : Cj p e to i k (j + 1) = (Cj p e to i k j || way p e 7 f to) := by
  unfold Cj anyB Wj
  rw [List.take_add_one, h, List.any_append]
  simp [Bool.or_assoc]
theorem ways_end {p : Pb} {e : Int} {to : Nat} (hp : lsOk p.succ.length p.succ = true) (hm : p.succ.length ≤ 8) (ht : to < p.succ.length) : Ai p e to p.gen.length = true ↔ Fwd p e to := by
  rw [fwd_way hp (m := 7) hm ht]
  unfold Ai Ae Gi
  rw [List.take_length, Bool.or_eq_true, List.any_eq_true, List.any_eq_true]
  constructor
  · rintro (⟨x, hx, h⟩ | ⟨i, hi, h⟩)
    · rw [Bool.and_eq_true, beq_iff_eq] at h
      obtain ⟨rfl, h⟩ := h
      exact ⟨0, .inl ⟨rfl, hx⟩, h⟩
    · rw [Bool.and_eq_true] at h
      obtain ⟨j, hj, hw⟩ := (anyB_iff hp).1 h.2
      exact ⟨j, .inr ⟨i, h.1, hj⟩, hw⟩
  · rintro ⟨f, ⟨rfl, h1⟩ | ⟨i, h1, h2⟩, hw⟩
    · exact .inl ⟨e, h1, by simp [hw]⟩
    · exact .inr ⟨i, List.mem_range.2 (has_lt h1), by rw [Bool.and_eq_true]; exact ⟨h1, (anyB_iff hp).2 ⟨f, h2, hw⟩⟩⟩
set_option maxHeartbeats 8000000 in
set_option maxRecDepth 100000 in
theorem flowWays_walk {w : World} (hT : TabAt w) {vs vg vk ve : Value} {p : Pb} (h : PbAt w vs vg vk ve p) (e : Int) :
    Calls Tryd.prog 5 #[pbV vs vg vk ve p.width, .int .i64 e] w fun x w' => x = .returned (.bool true) ∧ Below w.heap.size w w' := by
  obtain ⟨As, cs, rfl, hmaxs, hgs⟩ := h.s.form
  obtain ⟨Ag, cg, rfl, hmaxg, hgg⟩ := h.g.form
  obtain ⟨Ae4, ce, rfl, hmaxe, hge⟩ := rowI_form h.e
  obtain ⟨V, hV⟩ : ∃ V, w.alloc (.cells #[.slice As p.succ.length cs, .int .i64 p.width, .slice Ag p.gen.length cg, vk, .slice Ae4 p.entry.length ce] 25) = V := ⟨_, rfl⟩
  have hL := lw0_start hT h
  rw [hV] at hL
  obtain ⟨n, hn⟩ : ∃ x, p.succ.length = x := ⟨_, rfl⟩
  obtain ⟨ng, hng⟩ : ∃ x, p.gen.length = x := ⟨_, rfl⟩
  obtain ⟨le, hle⟩ : ∃ x, p.entry.length = x := ⟨_, rfl⟩
  have HN := Lib.hid hn
  have HNG := Lib.hid hng
  have HLE := Lib.hid hle
  obtain ⟨H, hH⟩ : ∃ x, w.heap.size = x := ⟨_, rfl⟩
  simp only [hn, hng, hle, hH] at hL hV hmaxs hmaxg hmaxe ⊢
  unfold maxLen at hmaxs hmaxg hmaxe
  have HL := Lib.hid hL
  have HV := Lib.hid hV
  have HH := Lib.hid hH
  have HFL := Lib.hid (fun (X : World) (hx : TabAt X) => flowed_any hx)
  have hSM := (fun (X : World) (hx : Lw0 w X H (.slice As n cs) (.slice Ag ng cg) vk (.slice Ae4 le ce) p) => small_any hx.at_)
  unfold pbV at hSM ⊢
  obtain ⟨wd, hwd⟩ : ∃ x, p.width = x := ⟨_, rfl⟩
  have HWD := Lib.hid hwd
  rw [hwd] at hSM HV ⊢
  have HSM := Lib.hid hSM
  clear hT h hV hL hH hn hng hle hwd hSM hgs hgg hge
  go_enter Tryd.func5, Tryd.ntmps5
  go_wp2_with fail
  rw [HV.out, HH.out]
  refine (HFL.out V HL.out.tab).mono ?_
  rintro x w1 ⟨rfl, q1⟩
  have HL1 := Lib.hid (HL.out.next q1)
  clear q1
  have d0 := HL1.out.box.at_ 0
  have d1 := HL1.out.box.at_ 1
  have d2 := HL1.out.box.at_ 2
  have d3 := HL1.out.box.at_ 3
  have d4 := HL1.out.box.at_ 4
  rw [HWD.out] at d1
  simp at d0 d1 d2 d3 d4
  go_wp2_with fail
  refine (HSM.out w1 HL1.out).mono ?_
  rintro x w2 ⟨rfl, q2⟩
  have HL2 := Lib.hid (HL1.out.next q2)
  clear q2 d0 d1 d2 d3 d4
  obtain ⟨bs, hbs⟩ : ∃ b, smallB p = b := ⟨_, rfl⟩
  have HBS := Lib.hid hbs
  rw [hbs]
  clear hbs
  cases bs with
  | false =>
    go_wp2_with fail
    refine (HFL.out w2 HL2.out.tab).mono ?_
    rintro x w3 ⟨rfl, q3⟩
    have HL3 := Lib.hid (HL2.out.next q3)
    clear q3
    go_wp2
    go_ret
    exact ⟨rfl, HL3.out.since⟩
  | true =>
    have hsm := small_iff HBS.out
    have hn30 : n ≤ 30 := by have := hsm.s; rw [HN.out] at this; exact this
    have d0 := HL2.out.box.at_ 0
    have d1 := HL2.out.box.at_ 1
    have d2 := HL2.out.box.at_ 2
    have d3 := HL2.out.box.at_ 3
    have d4 := HL2.out.box.at_ 4
    rw [HWD.out] at d1
    simp at d0 d1 d2 d3 d4
    have HSMA := Lib.hid hsm
    clear hsm
    by_cases h7 : n ≤ 7
    · have e7 : decide ((7 : Int) < n) = false := decide_eq_false (by omega)
      by_cases h0 : 0 ≤ e
      · have e0 : decide (e < 0) = false := decide_eq_false (by omega)
        by_cases h1 : e < wd
        · have e1 : decide (wd ≤ e) = false := decide_eq_false (by omega)
          have hrc := fun (X : World) (hx : Lw0 w X H (.slice As n cs) (.slice Ag ng cg) vk (.slice Ae4 le ce) p) => rcheck_any hx.at_ (by have := HN.out; omega)
          unfold pbV at hrc
          rw [HWD.out] at hrc
          have HRC := Lib.hid hrc
          clear hrc
          go_wp2_with fail
          refine (HRC.out w2 HL2.out).mono ?_
          rintro x w3 ⟨rfl, q3⟩
          have HL3 := Lib.hid (HL2.out.next q3)
          clear q3 d0 d1 d2 d3 d4 HRC
          by_cases hc0 : codeP p = 0
          · have HC0 := Lib.hid hc0
            rw [hc0]
            clear hc0
            have d0 := HL3.out.box.at_ 0
            simp at d0
            go_wp2
            go_loopw [5] (fun i wr => ∃ k : Nat, k ≤ n ∧ i = .int .i64 k ∧ wr = w3) (fun i _ => n - (intOf i).toNat)
            case atStart => exact ⟨0, Nat.zero_le _, rfl, rfl⟩
            case round =>
              obtain ⟨k, hk, rfl, rfl⟩ := hrel
              obtain ⟨As', cs', eV, _, hgs⟩ := HL3.out.at_.s.form
              by_cases hkn : k < n
              · obtain ⟨bk, o, u, rfl, hbk, hcell, hrow⟩ := hgs k (by have := HN.out; omega)
                rw [HN.out] at eV
                cases eV
                obtain ⟨A2, c2, rfl, hmax2, _⟩ := rowI_form hrow
                obtain ⟨l2, hl2⟩ : ∃ x, (p.succ[k]'(by have := HN.out; omega)).length = x := ⟨_, rfl⟩
                rw [hl2] at hcell hmax2
                unfold maxLen at hmax2
                clear hrow hl2 hgs
                by_cases h2 : l2 ≤ 2
                · have hd : decide ((2 : Int) < l2) = false := decide_eq_false (by omega)
                  go_wp2
                  go_roundw
                  case rel => exact ⟨k + 1, by omega, by go_num, trivial⟩
                  case measure => simp [intOf]; omega
                · have hd : decide ((2 : Int) < l2) = true := decide_eq_true (by omega)
                  go_wp2
                  go_ret
                  exact ⟨rfl, HL3.out.since⟩
              · have hkn : k = n := by omega
                subst hkn
                clear hgs eV d0
                have hn64 : p.succ.length ≤ 64 := by have := HN.out; omega
                have hok := code_ok hn64 HC0.out
                obtain ⟨m, hm⟩ : ∃ m : Nat, p.width = m := ⟨p.width.toNat, (Int.toNat_of_nonneg hok.low).symm⟩
                have hfw := forward_all HL3.out.tab HL3.out.at_ HC0.out hn64 hm
                rw [HN.out] at hfw
                have HOK := Lib.hid hok
                have HM := Lib.hid hm
                unfold pbV at hfw
                rw [HWD.out] at hfw
                have HFW := Lib.hid hfw
                clear hfw hok hm
                have d0 := HL3.out.box.at_ 0
                have d1 := HL3.out.box.at_ 1
                have d2 := HL3.out.box.at_ 2
                have d3 := HL3.out.box.at_ 3
                have d4 := HL3.out.box.at_ 4
                rw [HWD.out] at d1
                simp at d0 d1 d2 d3 d4
                go_wp2_with fail
                refine HFW.out.mono ?_
                rintro x w4 ⟨a, Y, rfl, q1, q2, q3⟩
                have HL4 := Lib.hid (HL3.out.next q2)
                have HA4 := Lib.hid q1
                have HY4 := Lib.hid q3
                clear d0 d1 d2 d3 d4 q1 q2 q3 HFW
                have d0 := HL4.out.box.at_ 0
                simp at d0
                go_wp2
                go_loopw [8] (fun i wr => ∃ to : Nat, to ≤ k ∧ i = .int .i64 to ∧ Hid (Below w4.heap.size w4 wr)) (fun i _ => k - (intOf i).toNat)
                case atStart => exact ⟨0, Nat.zero_le _, rfl, Below.refl _ _⟩
                clear d0
                case round =>
                  obtain ⟨to, hto, rfl, HB5⟩ := hrel
                  have HL5 := Lib.hid (HL4.out.next HB5.out)
                  have d0 := HL5.out.box.at_ 0
                  have d1 := HL5.out.box.at_ 1
                  have d2 := HL5.out.box.at_ 2
                  have d3 := HL5.out.box.at_ 3
                  have d4 := HL5.out.box.at_ 4
                  rw [HWD.out] at d1
                  simp at d0 d1 d2 d3 d4
                  by_cases htk : to < k
                  · obtain ⟨wo, rfl⟩ : ∃ wo : World, wo = wr := ⟨_, rfl⟩
                    have hway := way_any (e := e) (t := to) HOK.out.s HN.out 7 (by decide)
                    have hWY : ∀ (X : World), Lw0 w X H (.slice As k cs) (.slice Ag ng cg) vk (.slice Ae4 le ce) p → ∀ f : Nat, f < k → Calls Tryd.prog 18 #[pbV (.slice As k cs) (.slice Ag ng cg) vk (.slice Ae4 le ce) p.width, .int .i64 e, .int .i64 f, .int .i64 to, .int .i64 7] X fun x w' => x = .returned (.bool (way p e 7 f to)) ∧ Below X.heap.size X w' := fun X hx f hf => hway X _ _ _ _ hx.at_ f hf
                    unfold pbV at hWY
                    rw [HWD.out] at hWY
                    have HWY := Lib.hid hWY
                    clear hway hWY
                    go_wp2
                    go_loopw [9, 10] (fun v i wr => ∃ q : Nat, q ≤ le ∧ i = .int .i64 q ∧ v = .bool (Ae p e to q) ∧ Hid (Below w4.heap.size w4 wr)) (fun _ i _ => le - (intOf i).toNat)
                    case atStart => exact ⟨0, Nat.zero_le _, rfl, by simp [Ae], HB5⟩
                    clear d0 d1 d2 d3 d4 HB5 HL5
                    case round =>
                      obtain ⟨q, hq, rfl, rfl, HB6⟩ := hrel
                      have HL6 := Lib.hid (HL4.out.next HB6.out)
                      have d0 := HL6.out.box.at_ 0
                      have d1 := HL6.out.box.at_ 1
                      have d2 := HL6.out.box.at_ 2
                      have d3 := HL6.out.box.at_ 3
                      have d4 := HL6.out.box.at_ 4
                      rw [HWD.out] at d1
                      simp at d0 d1 d2 d3 d4
                      by_cases hql : q < le
                      · obtain ⟨x, hx⟩ : ∃ x, p.entry[q]? = some x := ⟨_, List.getElem?_eq_getElem (by rw [HLE.out]; exact hql)⟩
                        have hnx := ae_next (e := e) (to := to) hx
                        obtain ⟨ba, hba⟩ : ∃ b, Ae p e to q = b := ⟨_, rfl⟩
                        rw [hba] at hnx ⊢
                        have HNX := Lib.hid hnx
                        obtain ⟨Ae5, ce5, ee5, _, hge5⟩ := rowI_form HL6.out.at_.e
                        obtain ⟨bk, o, hA5, hbk, hcell⟩ := hge5 q (by rw [HLE.out]; exact hql)
                        rw [HLE.out] at ee5
                        cases ee5
                        subst hA5
                        have hx' : p.entry[q]'(by rw [HLE.out]; exact hql) = x := by
                          rw [List.getElem?_eq_getElem (by rw [HLE.out]; exact hql)] at hx
                          injection hx
                        rw [hx'] at hcell
                        clear hnx hba hx hx' hge5
                        cases ba with
                        | true =>
                          go_wp2
                          go_roundw
                          case rel => exact ⟨q + 1, by omega, by go_num, by rw [HNX.out]; rfl, HB6⟩
                          case measure => simp [intOf]; omega
                        | false =>
                          by_cases hxe : x = e
                          · subst hxe
                            have hC := HWY.out wr HL6.out 0 (by omega)
                            rw [show ((0 : Nat) : Int) = 0 from rfl] at hC
                            have HC := Lib.hid hC
                            clear hC
                            obtain ⟨bw, hbw⟩ : ∃ b, way p x 7 0 to = b := ⟨_, rfl⟩
                            rw [hbw] at HC
                            have HN2 : Hid (Ae p x to (q + 1) = bw) := by show _ = _; rw [HNX.out, hbw]; simp
                            clear HNX hbw
                            go_wp2_with fail
                            refine HC.out.mono ?_
                            rintro y w7 ⟨rfl, q7⟩
                            have HB7 : Hid (Below w4.heap.size w4 w7) := HB6.out.trans (q7.mono HB6.out.size)
                            clear q7 HC HB6 d0 d1 d2 d3 d4
                            go_wp2
                            go_roundw
                            case rel => exact ⟨q + 1, by omega, by go_num, by rw [HN2.out], HB7⟩
                            case measure => simp [intOf]; omega
                          · have hb : (x == e) = false := by simp; exact hxe
                            have HN2 : Hid (Ae p e to (q + 1) = false) := by show _ = _; rw [HNX.out, hb]; rfl
                            clear HNX
                            go_wp2
                            go_roundw
                            case rel => exact ⟨q + 1, by omega, by go_num, by rw [HN2.out], HB6⟩
                            case measure => simp [intOf]; omega
                      · have hqe : le = q := by omega
                        subst hqe
                        have hai : Ae p e to le = Ai p e to 0 := by rw [ai_zero, HLE.out]
                        rw [hai]
                        clear hai
                        go_wp2
                        go_loopw [9, 11] (fun v i wr => ∃ i1 : Nat, i1 ≤ ng ∧ i = .int .i64 i1 ∧ v = .bool (Ai p e to i1) ∧ Hid (Below w4.heap.size w4 wr)) (fun _ i _ => ng - (intOf i).toNat)
                        case atStart => exact ⟨0, Nat.zero_le _, rfl, rfl, HB6⟩
                        clear d0 d1 d2 d3 d4 HB6 HL6
                        case round =>
                          obtain ⟨i1, hi1, rfl, rfl, HB6⟩ := hrel
                          have HL6 := Lib.hid (HL4.out.next HB6.out)
                          have d0 := HL6.out.box.at_ 0
                          have d2 := HL6.out.box.at_ 2
                          simp at d0 d2
                          by_cases hig : i1 < ng
                          · obtain ⟨Ag2, cg2, eg2, _, hgg⟩ := HL4.out.at_.g.form
                            rw [HNG.out] at eg2
                            cases eg2
                            obtain ⟨As2, cs2, es2, _, hgs⟩ := HL4.out.at_.s.form
                            rw [HN.out] at es2
                            cases es2
                            have hik : i1 < p.succ.length := by have := HOK.out.gen; have := HNG.out; omega
                            obtain ⟨bk, o, u, hA5, hbk, hcell, hrow⟩ := hgg i1 (by rw [HNG.out]; exact hig)
                            obtain ⟨bs, os, us, hA6, hbs, hcells, hrows⟩ := hgs i1 hik
                            subst hA5 hA6
                            obtain ⟨A2, c2, rfl, hmx2, hget2⟩ := rowI_form hrow
                            obtain ⟨A3, c3, rfl, hmx3, hget3⟩ := rowI_form hrows
                            obtain ⟨gl, hgl⟩ : ∃ x, p.gen[i1]'(by rw [HNG.out]; exact hig) = x := ⟨_, rfl⟩
                            obtain ⟨sl, hsl⟩ : ∃ x, p.succ[i1]'hik = x := ⟨_, rfl⟩
                            have HGL : Hid (p.gen.getD i1 [] = gl) := by show _ = _; rw [getD_at (by rw [HNG.out]; exact hig), hgl]
                            have HSL : Hid (p.succ.getD i1 [] = sl) := by show _ = _; rw [getD_at hik, hsl]
                            rw [hgl] at hcell hmx2 hget2
                            rw [hsl] at hcells hmx3 hget3
                            obtain ⟨l2, hl2⟩ : ∃ x, gl.length = x := ⟨_, rfl⟩
                            obtain ⟨l3, hl3⟩ : ∃ x, sl.length = x := ⟨_, rfl⟩
                            have HL2' := Lib.hid hl2
                            have HL3' := Lib.hid hl3
                            rw [hl2] at hcell hmx2
                            rw [hl3] at hcells hmx3
                            unfold maxLen at hmx2 hmx3
                            have HG2 := Lib.hid hget2
                            have HG3 := Lib.hid hget3
                            have HLO : Hid (∀ x ∈ sl, 0 ≤ x ∧ x < (k : Int)) := fun x hx => by
                              have := row_ok HOK.out.s (HSL.out.symm ▸ hx : x ∈ p.succ.getD i1 [])
                              rw [HN.out] at this
                              exact this
                            have hc6 := (HB6.out.cell (p := ⟨bk, o + i1, none⟩) hbk).trans hcell
                            have hik2 : i1 < k := by have := HN.out; omega
                            have hai : Ai p e to i1 = Bk p e to i1 0 := (bk_zero p e to i1).symm
                            rw [hai]
                            clear hrow hrows hgl hsl hl2 hl3 hget2 hget3 hgg hgs hai hik
                            go_wp2
                            go_loopw [9, 12] (fun v i wr => ∃ k1 : Nat, k1 ≤ l2 ∧ i = .int .i64 k1 ∧ v = .bool (Bk p e to i1 k1) ∧ Hid (Below w4.heap.size w4 wr)) (fun _ i _ => l2 - (intOf i).toNat)
                            case atStart => exact ⟨0, Nat.zero_le _, rfl, rfl, HB6⟩
                            clear d0 d2 hc6 HB6 HL6
                            case round =>
                              obtain ⟨k1, hk1, rfl, rfl, HB7⟩ := hrel
                              have HL7 := Lib.hid (HL4.out.next HB7.out)
                              have d0 := HL7.out.box.at_ 0
                              have d2 := HL7.out.box.at_ 2
                              simp at d0 d2
                              have hc6 := (HB7.out.cell (p := ⟨bk, o + i1, none⟩) hbk).trans hcell
                              have hc7 := (HB7.out.cell (p := ⟨bs, os + i1, none⟩) hbs).trans hcells
                              by_cases hkl : k1 < l2
                              · obtain ⟨bg, og, hA7, hbg, hcg⟩ := HG2.out k1 (by rw [HL2'.out]; exact hkl)
                                subst hA7
                                obtain ⟨x, hx⟩ : ∃ x, gl[k1]'(by rw [HL2'.out]; exact hkl) = x := ⟨_, rfl⟩
                                rw [hx] at hcg
                                have hgk : (p.gen.getD i1 [])[k1]? = some x := by rw [HGL.out, List.getElem?_eq_getElem (by rw [HL2'.out]; exact hkl), hx]
                                have hc8 := (HB7.out.cell (p := ⟨bg, og + k1, none⟩) hbg).trans hcg
                                have HGK := Lib.hid hgk
                                have HCG := Lib.hid hcg
                                have HBG := Lib.hid hbg
                                clear hgk hx hcg
                                by_cases hxe : x = e
                                · subst hxe
                                  rw [← cj_zero p x to i1 k1]
                                  go_wp2
                                  go_loopw [9, 13] (fun v i wr => ∃ j1 : Nat, j1 ≤ l3 ∧ i = .int .i64 j1 ∧ v = .bool (Cj p x to i1 k1 j1) ∧ Hid (Below w4.heap.size w4 wr)) (fun _ i _ => l3 - (intOf i).toNat)
                                  case atStart => exact ⟨0, Nat.zero_le _, rfl, rfl, HB7⟩
                                  clear d0 d2 hc6 hc7 hc8 HB7 HL7
                                  case round =>
                                    obtain ⟨j1, hj1, rfl, rfl, HB8⟩ := hrel
                                    have HL8 := Lib.hid (HL4.out.next HB8.out)
                                    have d0 := HL8.out.box.at_ 0
                                    have d1 := HL8.out.box.at_ 1
                                    have d2 := HL8.out.box.at_ 2
                                    have d3 := HL8.out.box.at_ 3
                                    have d4 := HL8.out.box.at_ 4
                                    rw [HWD.out] at d1
                                    simp at d0 d1 d2 d3 d4
                                    have hc6 := (HB8.out.cell (p := ⟨bk, o + i1, none⟩) hbk).trans hcell
                                    have hc7 := (HB8.out.cell (p := ⟨bs, os + i1, none⟩) hbs).trans hcells
                                    have hc8 := (HB8.out.cell (p := ⟨bg, og + k1, none⟩) hbg).trans HCG.out
                                    by_cases hjl : j1 < l3
                                    · obtain ⟨b9, o9, hA9, hb9, hc9'⟩ := HG3.out j1 (by rw [HL3'.out]; exact hjl)
                                      subst hA9
                                      have hin := HLO.out _ (List.getElem_mem (show j1 < sl.length by rw [HL3'.out]; exact hjl))
                                      obtain ⟨f, hf⟩ : ∃ f : Nat, (sl[j1]'(by rw [HL3'.out]; exact hjl)) = (f : Int) := ⟨_, (Int.toNat_of_nonneg hin.1).symm⟩
                                      rw [hf] at hin hc9'
                                      have hc9 := (HB8.out.cell (p := ⟨b9, o9 + j1, none⟩) hb9).trans hc9'
                                      have hsj : (p.succ.getD i1 [])[j1]? = some (f : Int) := by rw [HSL.out, List.getElem?_eq_getElem (by rw [HL3'.out]; exact hjl), hf]
                                      have hnx := cj_next (e := x) (to := to) (k := k1) hsj
                                      obtain ⟨ba, hba⟩ : ∃ b, Cj p x to i1 k1 j1 = b := ⟨_, rfl⟩
                                      rw [hba] at hnx ⊢
                                      have HC := Lib.hid (HWY.out wr.drew (HL8.out.next ((Below.refl _ wr).drew)) f (by omega))
                                      obtain ⟨bw, hbw⟩ : ∃ b, way p x 7 f to = b := ⟨_, rfl⟩
                                      rw [hbw] at HC hnx
                                      have HNX := Lib.hid hnx
                                      have hcells2 := hcells
                                      have HSK : Hid (∀ X, Below w4.heap.size w4 X → X.cell? ⟨H, 0, none⟩ = some (.slice (some ⟨bs, os, none⟩) k cs) ∧ X.cell? ⟨H, 1, none⟩ = some (.int .i64 wd) ∧ X.cell? ⟨H, 2, none⟩ = some (.slice (some ⟨bk, o, none⟩) ng cg) ∧ X.cell? ⟨H, 3, none⟩ = some vk ∧ X.cell? ⟨H, 4, none⟩ = some (.slice Ae4 le ce) ∧ X.cell? ⟨bs, os + i1, none⟩ = some (.slice (some ⟨b9, o9, none⟩) l3 c3) ∧ X.cell? ⟨b9, o9 + j1, none⟩ = some (.int .i64 (f : Int))) := fun X hX => by
                                        have hB := (HL4.out.next hX).box
                                        exact ⟨hB.at_ 0, by rw [hB.at_, ← HWD.out]; rfl, hB.at_ 2, hB.at_ 3, hB.at_ 4, (hX.cell hbs).trans hcells2, (hX.cell hb9).trans hc9'⟩
                                      have DD : Hid (Below w4.heap.size w4 wr.drew) := HB8.out.drew
                                      clear hin hf hc9' hsj hnx hba hbw hcells2
                                      cases ba with
                                      | true =>
                                        go_wp2_with fail
                                        go_quiet (fail)
                                        have HB9 : Hid (Below w4.heap.size w4 (wr.drewN nq)) := HB8.out.trans ((below_dn wr _).mono HB8.out.size)
                                        clear HB8 HL8 HSK DD HC
                                        go_wp2
                                        go_roundw
                                        case rel => exact ⟨j1 + 1, by omega, by go_num, by rw [HNX.out]; rfl, HB9⟩
                                        case measure => simp [intOf]; omega
                                      | false =>
                                        have HN2 : Hid (Cj p x to i1 k1 (j1 + 1) = bw) := by show _ = _; rw [HNX.out, Bool.false_or]
                                        clear HNX
                                        go_wp2_with fail
                                        go_region_held3 (fun X => X.cell? ⟨H, 0, none⟩ = some (.slice (some ⟨bs, os, none⟩) k cs) ∧ X.cell? ⟨H, 1, none⟩ = some (.int .i64 wd) ∧ X.cell? ⟨H, 2, none⟩ = some (.slice (some ⟨bk, o, none⟩) ng cg) ∧ X.cell? ⟨H, 3, none⟩ = some vk ∧ X.cell? ⟨H, 4, none⟩ = some (.slice Ae4 le ce) ∧ X.cell? ⟨bs, os + i1, none⟩ = some (.slice (some ⟨b9, o9, none⟩) l3 c3) ∧ X.cell? ⟨b9, o9 + j1, none⟩ = some (.int .i64 (f : Int)))
                                          (first
                                            | exact HSK.out _ HB9.out
                                            | exact HSK.out _ DD.out
                                            | exact HSK.out _ HB8.out)
                                          (first | (go_at_call 18; refine HC.out.mono ?_; rintro y w9 ⟨rfl, q9⟩; have HB9 : Hid (Below w4.heap.size w4 w9) := DD.out.trans (q9.mono DD.out.size)))
                                        all_goals
                                          clear HB8 HL8 HSK DD HC
                                          go_wp2
                                          go_roundw
                                          case rel => exact ⟨j1 + 1, by omega, by go_num, by rw [HN2.out], HB9⟩
                                          case measure => simp [intOf]; omega
                                    · have hje : l3 = j1 := by omega
                                      subst hje
                                      have hcj : Cj p x to i1 k1 l3 = Bk p x to i1 (k1 + 1) := cj_end (by rw [HSL.out, HL3'.out]) HGK.out
                                      rw [hcj]
                                      clear hcj d1 d3 d4
                                      go_wp2
                                      go_roundw
                                      case rel => exact ⟨k1 + 1, by omega, by go_num, rfl, HB8⟩
                                      case measure => simp [intOf]; omega
                                · have hb : (x == e) = false := by simp; exact hxe
                                  have hsk : Bk p e to i1 (k1 + 1) = Bk p e to i1 k1 := bk_skip HGK.out hxe
                                  rw [← hsk]
                                  obtain ⟨bv, hbv⟩ : ∃ b, Bk p e to i1 (k1 + 1) = b := ⟨_, rfl⟩
                                  have HBV := Lib.hid hbv
                                  rw [hbv]
                                  clear hsk hbv
                                  go_wp2
                                  go_loopw [9, 13] (fun v i wr' => i = .int .i64 0 ∧ v = .bool bv ∧ wr' = wr) (fun _ i _ => 1 - (intOf i).toNat)
                                  case atStart => exact ⟨rfl, rfl, rfl⟩
                                  case round =>
                                    obtain ⟨rfl, rfl, rfl⟩ := hrel
                                    go_wp2
                                    go_roundw
                                    case rel => exact ⟨k1 + 1, by omega, by go_num, by rw [HBV.out], HB7⟩
                                    case measure => simp [intOf]; omega
                              · have hke : l2 = k1 := by omega
                                subst hke
                                have hbk2 : Bk p e to i1 l2 = Ai p e to (i1 + 1) := bk_end (by rw [HGL.out, HL2'.out])
                                rw [hbk2]
                                clear hbk2 hc7
                                go_wp2
                                go_roundw
                                case rel => exact ⟨i1 + 1, by omega, by go_num, rfl, HB7⟩
                                case measure => simp [intOf]; omega
                          · have hie : ng = i1 := by omega
                            subst hie
                            have hfin : Ai p e to ng = ansB k m Y (to : Int) e := by
                              obtain ⟨e', rfl⟩ : ∃ e' : Nat, e = e' := ⟨e.toNat, by omega⟩
                              have hem : e' < m := by have := HM.out; have := HWD.out; omega
                              rw [ans_nat htk hem, Bool.eq_iff_iff, HY4.out e' to hem htk, ← HNG.out]
                              exact ways_end HOK.out.s (by have := HN.out; omega) (by have := HN.out; omega)
                            have hHas := has_any (HA4.out.below HB6.out) (by omega) (to : Int) e
                            rw [hfin]
                            obtain ⟨bb, hbb⟩ : ∃ b, ansB k m Y (to : Int) e = b := ⟨_, rfl⟩
                            rw [hbb] at hHas ⊢
                            have HHas := Lib.hid hHas
                            clear hfin hHas hbb
                            cases bb
                            all_goals
                              go_wp2_with fail
                              refine HHas.out.mono ?_
                              rintro y w9 ⟨rfl, rfl⟩
                              clear HHas d0 d2
                              go_wp2
                              go_roundw
                              case rel => exact ⟨to + 1, by omega, by go_num, HB6⟩
                              case measure => simp [intOf]; omega
                  · have hte : to = k := by omega
                    subst hte
                    clear d1 d2 d3 d4
                    go_wp2
                    go_ret
                    exact ⟨rfl, HL5.out.since⟩
          · obtain ⟨cc, hcc⟩ : ∃ c, codeP p = c := ⟨_, rfl⟩
            rw [hcc] at hc0 ⊢
            have hne := bad_core cc hc0
            clear hcc hc0
            go_wp2_with fail
            refine (HFL.out w3 HL3.out.tab).mono ?_
            rintro x w4 ⟨rfl, q4⟩
            have HL4 := Lib.hid (HL3.out.next q4)
            clear q4
            go_wp2
            go_ret
            exact ⟨rfl, HL4.out.since⟩
        · have e1 : decide (wd ≤ e) = true := decide_eq_true (by omega)
          go_wp2_with fail
          refine (HFL.out w2 HL2.out.tab).mono ?_
          rintro x w3 ⟨rfl, q3⟩
          have HL3 := Lib.hid (HL2.out.next q3)
          clear q3
          go_wp2
          go_ret
          exact ⟨rfl, HL3.out.since⟩
      · have e0 : decide (e < 0) = true := decide_eq_true (by omega)
        go_wp2_with fail
        refine (HFL.out w2 HL2.out.tab).mono ?_
        rintro x w3 ⟨rfl, q3⟩
        have HL3 := Lib.hid (HL2.out.next q3)
        clear q3
        go_wp2
        go_ret
        exact ⟨rfl, HL3.out.since⟩
    · have e7 : decide ((7 : Int) < n) = true := decide_eq_true (by omega)
      go_wp2_with fail
      refine (HFL.out w2 HL2.out.tab).mono ?_
      rintro x w3 ⟨rfl, q3⟩
      have HL3 := Lib.hid (HL2.out.next q3)
      clear q3
      go_wp2
      go_ret
      exact ⟨rfl, HL3.out.since⟩
end Fl
end Go.Proofs.YtbeepedobnaojaaDoor
