/- The walks of layer 6's program: New. -/
import Derived.Deep.OwnRows
import Derived.Test.YtfadojniihjneaaLifeT
namespace Go.Proofs.Ytfadojniihjneaa
open Go.RowKit Lf Go.Deep
theorem info_row : (Try.prog.info? 51).map (fun i => (i.zero, i.size, i.bytes)) = some (some (.slice none 0 0), 1, 24) := by kernel_rfl
theorem info_bool : (Try.prog.info? 4).map (fun i => (i.zero, i.size, i.bytes)) = some (some (.bool false), 1, 1) := by kernel_rfl
/-- While New builds: rows up to k are told of, up to k' filled. -/
structure LPart (w0 w : World) (H m k k' : Nat) : Prop where
  size : w.heap.size = H + 2 + k
  head : Is w (H + 1) 54 #[.slice (some ⟨H, 0, none⟩) m m]
  outer : ∃ cs, Is w H 51 cs ∧ cs.size = m ∧ ∀ i, i < k → cs[i]? = some (.slice (some ⟨H + 2 + i, 0, none⟩) m m)
  row : ∀ i, i < k' → ∃ cs, Is w (H + 2 + i) 4 cs ∧ ∀ j, j < m → cs[j]? = some (.bool (stat i j))
  since : Below H w0 w
def RowTo (w : World) (R m k j : Nat) : Prop := ∃ cs, Is w R 4 cs ∧ cs.size = m ∧ ∀ i, i < j → cs[i]? = some (.bool (stat k i))
section
variable {w0 w : World} {H m k k' : Nat}
theorem LPart.drew (h : LPart w0 w H m k k') (q : Nat) : LPart w0 (w.drewN q) H m k k' := ⟨h.size, h.head, h.outer, h.row, ⟨h.since.os, h.since.tape, h.since.output, h.since.size, h.since.block⟩⟩
theorem LPart.c0 (h : LPart w0 w H m k k') : w.cell? ⟨H + 1, 0, none⟩ = some (.slice (some ⟨H, 0, none⟩) m m) := by rw [h.head.at_]; rfl
theorem LPart.c1 (h : LPart w0 w H m k k') {i : Nat} (hi : i < k) : w.cell? ⟨H, i, none⟩ = some (.slice (some ⟨H + 2 + i, 0, none⟩) m m) := by
  obtain ⟨cs, hc, _, hr⟩ := h.outer
  rw [hc.at_, hr i hi]
theorem part_row (h : LPart w0 w H m k k) (hk : k < m) :
    LPart w0 ((w.alloc (.cells (madeCells #[.bool false] m) 4)).setCell ⟨H, k, none⟩ (.slice (some ⟨w.heap.size, 0, none⟩) m m)) H m (k + 1) k ∧
      RowTo ((w.alloc (.cells (madeCells #[.bool false] m) 4)).setCell ⟨H, k, none⟩ (.slice (some ⟨w.heap.size, 0, none⟩) m m)) (H + 2 + k) m k 0 := by
  have hs := h.size
  obtain ⟨cs, hc, hm, hr⟩ := h.outer
  constructor
  · refine ⟨by simp [World.setCell]; omega, (h.head.alloc _).aside (by show H + 1 ≠ H; omega) _, ⟨_, (hc.alloc _).put k _, by simp [hm], fun i hi => ?_⟩, fun i hi => ?_, (h.since.alloc (by omega) _).setCell (Nat.le_refl _) _⟩
    · rw [Array.getElem?_setIfInBounds]
      by_cases hik : k = i
      · subst hik
        rw [if_pos rfl, if_pos (by omega), hs]
      · rw [if_neg hik]
        exact hr i (by omega)
    · obtain ⟨cs, hc, hr⟩ := h.row i hi
      exact ⟨cs, (hc.alloc _).aside (by show H + 2 + i ≠ H; omega) _, hr⟩
  · have := Is.made w 4 (madeCells #[.bool false] m)
    rw [hs] at this
    exact ⟨_, this.aside (by show H + 2 + k ≠ H; omega) _, by simp [madeCells], fun i hi => by omega⟩
theorem RowTo.drew {R j : Nat} (h : RowTo w R m k j) (q : Nat) : RowTo (w.drewN q) R m k j := h
theorem RowTo.free {R j : Nat} (h : RowTo w R m k j) (i : Nat) : w.frozen? ⟨R, i, none⟩ = false := by
  obtain ⟨cs, hc, _⟩ := h
  exact hc.free i
theorem RowTo.cell {R j : Nat} (h : RowTo w R m k j) {i : Nat} (hi : i < m) : ∃ v, w.cell? ⟨R, i, none⟩ = some v := by
  obtain ⟨cs, hc, hm, _⟩ := h
  exact ⟨cs[i], by rw [hc.at_, Array.getElem?_eq_getElem (by omega)]⟩
theorem row_step {R j : Nat} (h : RowTo w R m k j) (hj : j < m) {v : Bool} (hv : stat k j = v) : RowTo (w.setCell ⟨R, j, none⟩ (.bool v)) R m k (j + 1) := by
  obtain ⟨cs, hc, hm, hr⟩ := h
  refine ⟨_, hc.put j _, by simp [hm], fun i hi => ?_⟩
  rw [Array.getElem?_setIfInBounds]
  by_cases hij : j = i
  · subst hij
    rw [if_pos rfl, if_pos (by omega), hv]
  · rw [if_neg hij]
    exact hr i (by omega)
theorem part_step (h : LPart w0 w H m (k + 1) k) (hr : RowTo w (H + 2 + k) m k m) : LPart w0 w H m (k + 1) (k + 1) := by
  refine ⟨h.size, h.head, h.outer, fun i hi => ?_, h.since⟩
  by_cases hik : i = k
  · subst hik
    obtain ⟨cs, hc, _, hx⟩ := hr
    exact ⟨cs, hc, hx⟩
  · exact h.row i (by omega)
theorem part_put (h : LPart w0 w H m (k + 1) k) (j : Nat) (v : Value) : LPart w0 (w.setCell ⟨H + 2 + k, j, none⟩ v) H m (k + 1) k := by
  obtain ⟨cs, hc, hm, hr⟩ := h.outer
  refine ⟨by simp [World.setCell, h.size], h.head.aside (by show H + 1 ≠ H + 2 + k; omega) _, ⟨cs, hc.aside (by show H ≠ H + 2 + k; omega) _, hm, hr⟩, fun i hi => ?_, h.since.setCell (by show H ≤ H + 2 + k; omega) _⟩
  obtain ⟨cs, hc, hr⟩ := h.row i hi
  exact ⟨cs, hc.aside (by show H + 2 + i ≠ H + 2 + k; omega) _, hr⟩
theorem part_start (w : World) (m : Nat) : LPart w ((w.alloc (.cells (madeCells #[.slice none 0 0] m) 51)).alloc (.cells #[.slice (some ⟨w.heap.size, 0, none⟩) m m] 54)) w.heap.size m 0 0 := by
  refine ⟨by simp, ?_, ⟨_, (Is.made w _ _).alloc _, by simp [madeCells], fun i hi => by omega⟩, fun i hi => by omega, ((Below.refl _ w).alloc (Nat.le_refl _) _).alloc (by simp) _⟩
  have := Is.made (w.alloc (.cells (madeCells #[.slice none 0 0] m) 51)) 54 #[.slice (some ⟨w.heap.size, 0, none⟩) m m]
  rwa [show (w.alloc (.cells (madeCells #[.slice none 0 0] m) 51)).heap.size = w.heap.size + 1 from by simp] at this
theorem part_rel (h : LPart w0 w H m m m) (hp : 0 < m) (hf : m ≤ 301) : LRel w (H + 1) H (fun i => H + 2 + i) (fun _ => m) m stat := by
  obtain ⟨cs, hc, _, hr⟩ := h.outer
  exact ⟨hp, hf, h.head, ⟨cs, hc, hr⟩, fun i hi => ⟨Nat.le_refl _, h.row i hi⟩, fun i j _ _ e => by have e' : H + 2 + i = H + 2 + j := e; omega⟩
end
theorem new_bad {a : Int} (ha : a < 0 ∨ 300 < a) (w : World) : Calls Try.prog 22 #[.int .i64 a] w fun e w' => e = .returned (.tuple #[.pointer none, .int .i64 14]) ∧ w = w' := by
  rcases ha with ha | ha
  · go_enter Try.func22, Try.ntmps22
    go_wp2
    go_ret2
    exact ⟨rfl, rfl⟩
  · have h0 : 0 ≤ a := by omega
    go_enter Try.func22, Try.ntmps22
    go_wp2
    go_ret2
    exact ⟨rfl, rfl⟩
set_option maxHeartbeats 2000000 in
theorem new_any (w : World) {a : Int} {m : Nat} (h0 : 0 ≤ a) (h300 : a ≤ 300) (ham : a + 1 = (m : Int)) : Calls Try.prog 22 #[.int .i64 a] w fun e w' =>
    e = .returned (.tuple #[.pointer (some ⟨w.heap.size + 1, 0, none⟩), .int .i64 0]) ∧ LRel w' (w.heap.size + 1) w.heap.size (fun i => w.heap.size + 2 + i) (fun _ => m) m stat ∧ Below w.heap.size w w' := by
  have hm : m ≤ 301 := by omega
  have hmp : 0 < m := by omega
  have hmk := run_make_row' (P := Try.prog) 52 51 (.slice none 0 0) 24 Try.underlying52 info_row rfl .i64 .i64 m (by omega) (by omega)
  obtain ⟨H, hH⟩ : ∃ x, w.heap.size = x := ⟨_, rfl⟩
  have p0 := part_start w m
  rw [hH] at p0 ⊢
  have P0 := Lib.hid p0
  clear p0
  go_enter Try.func22, Try.ntmps22
  go_wp2
  clear hmk
  go_loopw [20] (fun i wr => ∃ k : Nat, k ≤ m ∧ i = .int .i64 k ∧ Hid (LPart w wr H m k k)) (fun i _ => m - (intOf i).toNat)
  case atStart => exact ⟨0, Nat.zero_le _, rfl, P0⟩
  case round =>
    obtain ⟨k, hk, rfl, HL⟩ := hrel
    by_cases hlt : k < m
    · have hmk := run_make_row' (P := Try.prog) 51 4 (.bool false) 1 Try.underlying51 info_bool rfl .i64 .i64 m (by omega) (by omega)
      have c0 := HL.out.c0
      have hs := HL.out.size
      obtain ⟨cs, hc, hcm, _⟩ := HL.out.outer
      have hf := hc.free k
      have hst := fun o => (hc.alloc o).free k
      obtain ⟨v, hv⟩ : ∃ v, wr.cell? ⟨H, k, none⟩ = some v := ⟨cs[k], by rw [hc.at_, Array.getElem?_eq_getElem (by omega)]⟩
      have hvo : ∀ o, (wr.alloc o).cell? ⟨H, k, none⟩ = some v := fun o => by rw [World.cell?_alloc_old _ _ _ (by show H ≠ wr.heap.size; omega)]; exact hv
      have c0o : ∀ o, (wr.alloc o).cell? ⟨H + 1, 0, none⟩ = some (.slice (some ⟨H, 0, none⟩) m m) := fun o => by rw [World.cell?_alloc_old _ _ _ (by show H + 1 ≠ wr.heap.size; omega)]; exact c0
      have q := part_row HL.out hlt
      obtain ⟨S, hS⟩ : ∃ x, wr.heap.size = x := ⟨_, rfl⟩
      rw [hS] at q
      have HQ := Lib.hid q
      have HS := Lib.hid (hS.symm.trans hs)
      clear q hc hcm hs
      go_wp2_with fail
      go_region
      go_wp2
      clear c0 c0o hf hst hv hvo
      go_loopw [34] (fun j wi => ∃ q : Nat, q ≤ m ∧ j = .int .i64 q ∧ Hid (LPart w wi H m (k + 1) k) ∧ Hid (RowTo wi (H + 2 + k) m k q)) (fun j _ => m - (intOf j).toNat)
      case atStart => exact ⟨0, Nat.zero_le _, rfl, HQ.out.1.drew 1, HQ.out.2.drew 1⟩
      case round =>
        obtain ⟨q, hq, rfl, HP, HR⟩ := hrel
        by_cases hqm : q < m
        · have c0 := HP.out.c0
          have c1 := HP.out.c1 (show k < k + 1 by omega)
          obtain ⟨R, hR⟩ : ∃ x, H + 2 + k = x := ⟨_, rfl⟩
          have HR' := Lib.hid hR
          rw [hR] at c1
          obtain ⟨v, cr⟩ := HR.out.cell hqm
          have fr := HR.out.free q
          rw [hR] at cr fr
          have stp : ∀ x : Bool, stat k q = x → Hid (LPart w (wr.setCell ⟨R, q, none⟩ (.bool x)) H m (k + 1) k) ∧ Hid (RowTo (wr.setCell ⟨R, q, none⟩ (.bool x)) (H + 2 + k) m k (q + 1)) := fun x hx => by
            rw [← hR]
            exact ⟨part_put HP.out q _, row_step HR.out hqm hx⟩
          have ST := Lib.hid stp
          clear stp hR
          by_cases hk0 : k = 0
          · have e0 : ((k : Int) == 0) = true := by rw [beq_iff_eq]; omega
            have hx : stat k q = true := by simp [stat, hk0]
            have HX := ST.out true hx
            clear hx hk0 ST
            go_wp2
            go_roundw
            case rel => exact ⟨q + 1, by omega, by go_num, HX.1, HX.2⟩
            case measure => simp [intOf]; omega
          · have e0 : ((k : Int) == 0) = false := by rw [beq_eq_false_iff_ne]; omega
            by_cases hkq : k = q
            · have e1 : ((k : Int) == (q : Int)) = true := by rw [beq_iff_eq]; omega
              have HX := ST.out true (by simp [stat, hkq])
              clear hkq hk0 ST
              go_wp2
              go_roundw
              case rel => exact ⟨q + 1, by omega, by go_num, HX.1, HX.2⟩
              case measure => simp [intOf]; omega
            · have e1 : ((k : Int) == (q : Int)) = false := by rw [beq_eq_false_iff_ne]; omega
              have HX := ST.out false (by simp [stat, hkq, hk0])
              clear hkq hk0 ST
              go_wp2
              go_roundw
              case rel => exact ⟨q + 1, by omega, by go_num, HX.1, HX.2⟩
              case measure => simp [intOf]; omega
        · have hqm' : q = m := by omega
          subst hqm'
          go_wp2
          go_roundw
          case rel => exact ⟨k + 1, by omega, by go_num, part_step HP.out HR.out⟩
          case measure => simp [intOf]; omega
    · have hkm : k = m := by omega
      subst hkm
      have HE := Lib.hid hH
      clear hH
      go_wp2
      go_ret2
      exact ⟨rfl, part_rel HL.out hmp hm, HL.out.since⟩
end Go.Proofs.Ytfadojniihjneaa
