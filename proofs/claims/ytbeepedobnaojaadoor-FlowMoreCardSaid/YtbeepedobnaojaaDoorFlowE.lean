/- What is come to from some nodes: flood. -/
import Derived.Laws.CopyOwn
import Derived.Test.YtbeepedobnaojaaDoorFlowD
namespace Go.Proofs.YtbeepedobnaojaaDoor
open Go.RowKit Lf Go.Deep Sv Tr
namespace Fl
theorem But.mod {b : Nat} {S : Nat → Prop} {x y : World} (h : But b x y) (hb : S b) : Mod S x y := (Mod.refl S x).but h hb
theorem setRow_but (w : World) (g : Nat) (cs : Array Value) : But g w (w.setRow g cs) := ⟨rfl, rfl, rfl, by simp [World.setRow], fun k hk => setRow_other w g k cs hk⟩
section
variable (bw kw : Nat) (X : Nat → Nat)
abbrev Rc (bw kw : Nat) (X : Nat → Nat) : Nat → Prop := Rch (fun i => bw.testBit i) (fun i => kw.testBit i) fun i j => (X i).testBit j
structure Fd (n bw kw : Nat) (X : Nat → Nat) (k : Nat) (L : List Nat) (S : Nat) : Prop where
  len : L.length = card S
  mem : ∀ i, i ∈ L ↔ S.testBit i = true
  lt : S < 2 ^ n
  sound : ∀ i ∈ L, Rc bw kw X i
  base : ∀ i, bw.testBit i = true → S.testBit i = true
  done : ∀ q x, q < k → L[q]? = some x → ∀ j, (X x).testBit j = true → kw.testBit j = false → S.testBit j = true
end
section
variable {n bw kw : Nat} {X : Nat → Nat} {k : Nat} {L : List Nat} {S : Nat}
theorem mem_fresh {y x n : Nat} (hy : y < 2 ^ n) (hn : n ≤ 64) {i : Nat} : i ∈ bl (fresh y x) ↔ y.testBit i = true ∧ x.testBit i = false := by
  rw [mem_bl, fresh_bit, Bool.and_eq_true, Bool.not_eq_true']
  exact ⟨fun h => h.2, fun h => ⟨Nat.lt_of_lt_of_le (bit_lt hy h.1) hn, h⟩⟩
theorem fd_start (hn : n ≤ 64) (hb : bw < 2 ^ n) : Fd n bw kw X 0 ([] ++ bl (fresh bw 0)) (0 ||| bw) := by
  rw [List.nil_append]
  have hm : ∀ i, i ∈ bl (fresh bw 0) ↔ bw.testBit i = true := fun i => by rw [mem_fresh hb hn]; simp
  refine ⟨?_, fun i => by rw [hm, Nat.zero_or], by rw [Nat.zero_or]; exact hb, fun i hi => .base i ((hm i).1 hi), fun i h => by rw [Nat.zero_or]; exact h, fun q x hq => absurd hq (Nat.not_lt_zero q)⟩
  have := card_or 0 bw
  have h0 : card 0 = 0 := by unfold card; rw [bl_zero]; rfl
  rw [h0] at this
  rw [this, Nat.zero_add]
  rfl
theorem Fd.step (h : Fd n bw kw X k L S) (hn : n ≤ 64) (hX : Lw n n X) {x : Nat} (hx : L[k]? = some x) : Fd n bw kw X (k + 1) (L ++ bl (fresh (fresh (X x) kw) S)) (S ||| fresh (X x) kw) ∧ fresh (X x) kw < 2 ^ n := by
  have hxm : x ∈ L := List.mem_of_getElem? hx
  have hxn : x < n := bit_lt h.lt ((h.mem x).1 hxm)
  have hF : fresh (X x) kw < 2 ^ n := fresh_lt (hX x hxn)
  have hm : ∀ i, i ∈ bl (fresh (fresh (X x) kw) S) ↔ (fresh (X x) kw).testBit i = true ∧ S.testBit i = false := fun i => mem_fresh hF hn
  refine ⟨⟨?_, fun i => ?_, or_lt h.lt hF, fun i hi => ?_, fun i hi => by rw [Nat.testBit_or, h.base i hi]; rfl, fun q y hq hy j hj hk => ?_⟩, hF⟩
  · rw [List.length_append, h.len, card_or]
    rfl
  · rw [List.mem_append, h.mem, hm, Nat.testBit_or, Bool.or_eq_true]
    constructor
    · rintro (h | h)
      · exact .inl h
      · exact .inr h.1
    · rintro (h1 | h1)
      · exact .inl h1
      · cases hs : S.testBit i with
        | true => exact .inl rfl
        | false => exact .inr ⟨h1, rfl⟩
  · rcases List.mem_append.1 hi with hi | hi
    · exact h.sound i hi
    · have := ((hm i).1 hi).1
      rw [fresh_bit, Bool.and_eq_true, Bool.not_eq_true'] at this
      exact .step x i (h.sound x hxm) this.1 this.2
  · rw [Nat.testBit_or, Bool.or_eq_true]
    by_cases hqk : q < k
    · have hlt : q < L.length := by
        have := (List.getElem?_eq_some_iff.1 hx).1
        omega
      rw [List.getElem?_append_left hlt] at hy
      exact .inl (h.done q y hqk hy j hj hk)
    · have hqk : q = k := by omega
      subst hqk
      have hlt : q < L.length := (List.getElem?_eq_some_iff.1 hx).1
      rw [List.getElem?_append_left hlt, hx] at hy
      injection hy with hy
      subst hy
      exact .inr (by rw [fresh_bit, hj, hk]; rfl)
theorem Fd.end_ (h : Fd n bw kw X k L S) (hk : L.length ≤ k) (i : Nat) : i ∈ L ↔ Rc bw kw X i := by
  refine ⟨h.sound i, fun hr => ?_⟩
  induction hr with
  | base i hi => exact (h.mem i).2 (h.base i hi)
  | step i j _ h2 h3 ih =>
    obtain ⟨q, hq, e⟩ := List.getElem_of_mem ih
    exact (h.mem j).2 (h.done q i (by omega) (by rw [List.getElem?_eq_getElem hq, e]) j h2 h3)
end
theorem copy_one {w : World} {g : Nat} {x : Nat} (h : Is w g 40 #[.int .u64 (x : Int)]) (y : Nat) :
    ∃ w2, w.setRow g ((#[Value.int .u64 (x : Int)] : Array Value).toList.take 0 ++ ([Value.int .u64 (y : Int)] ++ (#[Value.int .u64 (x : Int)] : Array Value).toList.drop (0 + [Value.int .u64 (y : Int)].length))).toArray = w2 ∧ Is w2 g 40 #[.int .u64 (y : Int)] ∧ But g w w2 := by
  refine ⟨_, rfl, ?_, setRow_but _ _ _⟩
  unfold Is at h ⊢
  simp [World.setRow, Array.getElem?_modify, h]
set_option maxHeartbeats 8000000 in
set_option maxRecDepth 100000 in
theorem flood_any {w : World} (hT : TabAt w) {rb re c n bw kw : Nat} {X : Nat → Nat} (hb : Is w rb 40 #[.int .u64 bw]) (he : Is w re 40 #[.int .u64 kw]) (hs : Sw w c n X) (hX : Lw n n X) (hbw : bw < 2 ^ n) (hkw : kw < 2 ^ n) (hn : n ≤ 64) :
    Calls Tryd.prog 27 #[.slice (some ⟨rb, 0, none⟩) 1 1, .slice (some ⟨re, 0, none⟩) 1 1, .slice (some ⟨c, 0, none⟩) n n] w fun e w' =>
      ∃ v L, e = .returned v ∧ Own w' (w.heap.size + 1 + 1) v L ∧ L.length ≤ 64 ∧ (∀ i, i ∈ L ↔ Rc bw kw X i) ∧ (∀ i ∈ L, i < n) ∧ Below w.heap.size w w' := by
  have hmk : ∀ w : World, Sem.run Tryd.prog (Instr.makeSlice 52 (.int .i64 1) (.int .i64 1)) w = .ok (.slice (some ⟨w.heap.size, 0, none⟩) 1 1) (w.alloc (.cells (madeCells #[.int .u64 0] 1) 40)) := run_make_row' (P := Tryd.prog) 52 40 (.int .u64 0) 8 Tryd.underlying52 info_u64 rfl .i64 .i64 1 (by omega) (by omega)
  obtain ⟨o1, ho1⟩ : ∃ o, Obj.cells (madeCells #[.int .u64 0] 1) 40 = o := ⟨_, rfl⟩
  have B2 : Below w.heap.size w ((w.alloc o1).alloc o1) := ((Below.refl _ w).alloc (Nat.le_refl _) o1).alloc (by simp) o1
  have i1 : Is ((w.alloc o1).alloc o1) w.heap.size 40 #[.int .u64 ((0 : Nat) : Int)] := by rw [← ho1, ← made_one_word]; exact (Is.made w _ _).alloc _
  have hN : (w.alloc o1).heap.size = w.heap.size + 1 := by simp
  have i2 : Is ((w.alloc o1).alloc o1) (w.heap.size + 1) 40 #[.int .u64 ((0 : Nat) : Int)] := by rw [← ho1, ← made_one_word]; rw [← ho1] at hN; exact hN ▸ Is.made (w.alloc _) _ _
  have hS : ((w.alloc o1).alloc o1).heap.size = w.heap.size + 1 + 1 := by simp
  obtain ⟨V, hV⟩ : ∃ V, (w.alloc o1).alloc o1 = V := ⟨_, rfl⟩
  rw [hV] at B2 i1 i2 hS
  have HV : Hid ((w.alloc (.cells (madeCells #[.int .u64 0] 1) 40)).alloc (.cells (madeCells #[.int .u64 0] 1) 40) = V) := by rw [ho1]; exact hV
  have HT := Lib.hid (hT.below B2 hT.pos)
  have hT0 := hT.pos
  have hrb := hb.lt
  have hre := he.lt
  have hcs := hs.lt
  have HB := Lib.hid B2
  have HI1 := Lib.hid i1
  have HI2 := Lib.hid i2
  have HSZ := Lib.hid hS
  have HBB := Lib.hid (hb.below B2 hrb)
  have HEE := Lib.hid (he.below B2 hre)
  have HSS := Lib.hid (hs.below B2)
  have hw64 := lw64 hn hbw
  have hk64 := lw64 hn hkw
  obtain ⟨H, hH⟩ : ∃ x, w.heap.size = x := ⟨_, rfl⟩
  rw [hH] at HB HI1 HI2 HSZ hrb hre hcs hT0 ⊢
  have HH := Lib.hid hH
  have HA := Lib.hid (addNew_any HT.out HI1.out HBB.out (by decide) hw64 (B := H + 1 + 1) (v := .slice none 0 0) (l := []) ⟨rfl, .inl ⟨rfl, rfl⟩⟩ (by decide) (by rw [HSZ.out]; exact Nat.le_refl _) (by omega))
  have HE0 := Lib.hid he
  have HS0 := Lib.hid hs
  have HT0 := Lib.hid hT
  clear hT hb he hs ho1 B2 i1 hN i2 hS hV hH
  go_enter Tryd.func27, Tryd.ntmps27
  go_wp2_with fail
  rw [HV.out, HH.out]
  refine HA.out.mono ?_
  rintro e w1 ⟨v1, rfl, q1, q2, q3⟩
  have R1 : Hid (∃ L S, Fd n bw kw X 0 L S ∧ Own w1 (H + 1 + 1) v1 L ∧ Is w1 H 40 #[.int .u64 (S : Nat)] ∧ (∃ y : Nat, Is w1 (H + 1) 40 #[.int .u64 (y : Nat)]) ∧ Below H w w1) := by
    refine ⟨_, _, fd_start hn hbw, q1, q2, ⟨0, q3.is HI2.out (by omega)⟩, q3.below HB.out (by rw [HSZ.out]; omega) (fun k hk => by rcases hk with h | h <;> omega)⟩
  clear q1 q2 q3 HA HI1 HI2 HBB HEE HSS HT
  go_wp2
  go_loopw [9, 10] (fun v i wr => ∃ k : Nat, k ≤ 64 ∧ i = .int .i64 k ∧ Hid (∃ L S, Fd n bw kw X k L S ∧ Own wr (H + 1 + 1) v L ∧ Is wr H 40 #[.int .u64 (S : Nat)] ∧ (∃ y : Nat, Is wr (H + 1) 40 #[.int .u64 (y : Nat)]) ∧ Below H w wr)) (fun _ i _ => 64 - (intOf i).toNat)
  case atStart => exact ⟨0, by omega, rfl, R1⟩
  clear R1
  case round =>
    obtain ⟨k, hk, rfl, HQ⟩ := hrel
    obtain ⟨L, S, fd, ow, i1, ⟨y, i2⟩, b⟩ := HQ.out
    have hL64 : L.length ≤ 64 := by rw [fd.len]; exact card_le S
    obtain ⟨ao, cp, rfl, hnil⟩ := Tr.own_slice ow
    by_cases hlt : k < L.length
    · obtain ⟨x, hx⟩ : ∃ x, L[k]? = some x := ⟨_, List.getElem?_eq_getElem hlt⟩
      have hxm : x ∈ L := List.mem_of_getElem? hx
      have hxn : x < n := bit_lt fd.lt ((fd.mem x).1 hxm)
      obtain ⟨fd2, hF⟩ := fd.step hn hX hx
      obtain ⟨g, rfl⟩ : ∃ g, ao = some ⟨g, 0, none⟩ := by
        rcases ow.2 with ⟨e, h0⟩ | ⟨g, cap, cur, e, _⟩
        · omega
        · injection e with e _ _
          exact ⟨g, e⟩
      have c4 := ow.cellAt k (by omega)
      have e4 : (natsC L)[k]? = some (.int .i64 (x : Int)) := by unfold natsC; rw [List.getElem?_map, hx]; rfl
      rw [e4] at c4
      have HB0 : Hid (Below w.heap.size w wr) := by show Below _ _ _; rw [HH.out]; exact b
      have hS := HS0.out.below HB0.out
      have hE := HE0.out.below HB0.out (by rw [HH.out]; exact hre)
      have hc3 := hS.cell hxn
      have hc5 := hS.word hxn
      obtain ⟨w2, hw2, j2, b2⟩ := copy_one i2 (X x)
      have HW2 := Lib.hid hw2
      have hX64 := lw64 hn (hX x hxn)
      have ne1 : H ≠ H + 1 := by omega
      have HRM := Lib.hid (remove_any j2 (b2.is hE (by omega)) hX64 hk64)
      have hlt64 := fd.lt
      have HADD : Hid (∀ w3, Is w3 (H + 1) 40 #[.int .u64 ((fresh (X x) kw : Nat) : Int)] → But (H + 1) w2 w3 → Calls Tryd.prog 36 #[.slice (some ⟨H, 0, none⟩) 1 1, .slice (some ⟨H + 1, 0, none⟩) 1 1, .slice (some ⟨g, 0, none⟩) L.length cp] w3 fun e w' =>
          ∃ v', e = .returned v' ∧ Hid (∃ L S, Fd n bw kw X (k + 1) L S ∧ Own w' (H + 1 + 1) v' L ∧ Is w' H 40 #[.int .u64 (S : Nat)] ∧ (∃ y : Nat, Is w' (H + 1) 40 #[.int .u64 (y : Nat)]) ∧ Below H w w')) := fun w3 h1 h2 => by
        have hb3 : Below H w w3 := (b.trans (b2.below (by omega))).trans (h2.below (by omega))
        have hT3 : TabAt w3 := HT0.out.below hb3 hT0
        have h13 : Is w3 H 40 #[.int .u64 (S : Nat)] := h2.is (b2.is i1 ne1) ne1
        have how : Own w3 (H + 1 + 1) (.slice (some ⟨g, 0, none⟩) L.length cp) L := own_but (own_but ow b2 i2 (by decide)) h2 j2 (by decide)
        refine (addNew_any hT3 h13 h1 (lw64 hn hlt64) (lw64 hn hF) how (by omega) (by have := h1.lt; omega) (by omega)).mono ?_
        rintro e w' ⟨v', rfl, q1, q2, q3⟩
        exact ⟨v', rfl, _, _, fd2, q1, q2, ⟨_, q3.is h1 (by omega)⟩, q3.below hb3 (by have := h1.lt; omega) (fun k hk => by rcases hk with h | h <;> omega)⟩
      have HC5 : Hid (∀ (j : Nat) v, [Value.int .u64 ((X x : Nat) : Int)][j]? = some v → wr.cell? ((⟨c + 1 + x, 0, none⟩ : Addr).add j) = some v) := by
        intro j v hv
        cases j with
        | zero => injection hv with hv; subst hv; exact hc5
        | succ j => simp at hv
      have hcopy : Sem.run Tryd.prog (Builtin.copy_ #[52, 52] 3 #[.slice (some ⟨H + 1, 0, none⟩) 1 1, .slice (some ⟨c + 1 + x, 0, none⟩) 1 1]) wr = .ok (.int .i64 1) w2 := by
        rw [run_copy_row (P := Tryd.prog) wr 52 52 3 40 (H + 1) 0 1 1 ⟨c + 1 + x, 0, none⟩ 1 1 _ 40 [.int .u64 ((X x : Nat) : Int)] Tryd.underlying52 (by kernel_rfl) i2 rfl HC5.out (by simp) (fun u hu => by simp at hu; subst hu; rfl)]
        rw [List.append_assoc, hw2]
        rfl
      obtain ⟨ln, hln⟩ : ∃ q, L.length = q := ⟨_, rfl⟩
      rw [hln] at hlt HADD hL64 ⊢
      clear hx hxm fd2 hF e4 hS hE hc5 hw2 j2 b2 ow i1 i2 b fd hlt64 HQ hln hnil
      go_wp2_with fail
      refine HRM.out.mono ?_
      rintro e w3 ⟨rfl, r1, r2⟩
      have HAD3 := Lib.hid (HADD.out w3 r1 r2)
      clear r1 r2
      go_wp2_with fail
      refine HAD3.out.mono ?_
      rintro e w4 ⟨v4, rfl, HQ4⟩
      go_wp2
      go_roundw
      case rel => exact ⟨k + 1, by omega, by go_num, HQ4⟩
      case measure => simp [intOf]; omega
    · have hR : Hid (∃ v L', Value.slice ao L.length cp = v ∧ Own wr (H + 1 + 1) v L' ∧ L'.length ≤ 64 ∧ (∀ i, i ∈ L' ↔ Rc bw kw X i) ∧ (∀ i ∈ L', i < n) ∧ Below H w wr) :=
        ⟨_, L, rfl, ow, hL64, fd.end_ (by omega), fun i hi => bit_lt fd.lt ((fd.mem i).1 hi), b⟩
      obtain ⟨ln, hln⟩ : ∃ q, L.length = q := ⟨_, rfl⟩
      rw [hln] at hlt hL64 hR ⊢
      clear fd ow i1 i2 b HQ hnil hln
      go_wp2
      go_ret
      obtain ⟨v, L', rfl, h1, h2, h3, h4, h5⟩ := hR.out
      exact ⟨_, L', rfl, h1, h2, h3, h4, h5⟩
end Fl
end Go.Proofs.YtbeepedobnaojaaDoor
