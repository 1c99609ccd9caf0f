/- The walk of layer 12: addNew: all of another word, and which of its bits are new. -/
import Derived.BigRegion
import Derived.Deep.OwnRows
import Derived.Test.YtbeepedobnaojaaDoorSolB
namespace Go.Proofs.YtbeepedobnaojaaDoor
open Go.RowKit Lf Go.Deep
namespace Sv
theorem info_int : (Tryd.prog.info? 3).map (fun i => (i.zero, i.size, i.bytes)) = some (some (.int .i64 0), 1, 8) := by kernel_rfl
/-- w' is w with more blocks, but for the blocks S. -/
structure Mod (S : Nat → Prop) (w w' : World) : Prop where
  os : w'.os = w.os
  tape : w'.tape = w.tape
  output : w'.output = w.output
  size : w.heap.size ≤ w'.heap.size
  block : ∀ k, k < w.heap.size → ¬S k → w'.heap[k]? = w.heap[k]?
theorem Mod.refl (S : Nat → Prop) (w : World) : Mod S w w := ⟨rfl, rfl, rfl, Nat.le_refl _, fun _ _ _ => rfl⟩
theorem Mod.trans {S : Nat → Prop} {x y z : World} (h : Mod S x y) (k : Mod S y z) : Mod S x z :=
  ⟨k.os.trans h.os, k.tape.trans h.tape, k.output.trans h.output, Nat.le_trans h.size k.size, fun i hi hs => (k.block i (Nat.lt_of_lt_of_le hi h.size) hs).trans (h.block i hi hs)⟩
theorem Mod.mono {S T : Nat → Prop} {x y : World} (h : Mod S x y) (hST : ∀ k, k < x.heap.size → S k → T k) : Mod T x y := ⟨h.os, h.tape, h.output, h.size, fun k hk hT => h.block k hk fun hS => hT (hST k hk hS)⟩
theorem Mod.alloc {S : Nat → Prop} {x y : World} (h : Mod S x y) (o : Obj) : Mod S x (y.alloc o) := ⟨h.os, h.tape, h.output, Nat.le_trans h.size (by simp), fun k hk hS => (Below.heap_alloc y o k (Nat.lt_of_lt_of_le hk h.size)).trans (h.block k hk hS)⟩
theorem Mod.drew {S : Nat → Prop} {x y : World} (h : Mod S x y) : Mod S x y.drew := ⟨h.os, h.tape, h.output, h.size, h.block⟩
theorem Mod.drewN {S : Nat → Prop} {x y : World} (h : Mod S x y) (q : Nat) : Mod S x (y.drewN q) := ⟨h.os, h.tape, h.output, h.size, h.block⟩
theorem Mod.put {S : Nat → Prop} {x y : World} (h : Mod S x y) {b : Nat} (hb : S b) (i : Nat) (u : Value) : Mod S x (y.setCell ⟨b, i, none⟩ u) :=
  ⟨h.os, h.tape, h.output, Nat.le_trans h.size (by simp [World.setCell]), fun k hk hS => (Below.heap_setCell _ _ _ _ (fun e => hS (by rw [e]; exact hb))).trans (h.block k hk hS)⟩
theorem Mod.but {S : Nat → Prop} {x y z : World} {b : Nat} (h : Mod S x y) (k : But b y z) (hb : S b) : Mod S x z :=
  h.trans ⟨k.os, k.tape, k.output, Nat.le_of_eq k.size.symm, fun i _ hi => k.block i fun e => hi (e ▸ hb)⟩
theorem Mod.grown {S : Nat → Prop} {x y z : World} {r : Option Nat} (h : Mod S x y) (k : y.grownBy z r) (hr : ∀ i, r = some i → i < x.heap.size → S i) : Mod S x z :=
  ⟨k.os.trans h.os, k.tape.trans h.tape, k.output.trans h.output, Nat.le_trans h.size k.size, fun i hi hs => (k.block i (Nat.lt_of_lt_of_le hi h.size) (fun e => hs (hr i e.symm hi))).trans (h.block i hi hs)⟩
theorem Mod.is {S : Nat → Prop} {x y : World} (h : Mod S x y) {b : Nat} {t : TypeId} {cs : Array Value} (hi : Is x b t cs) (hb : ¬S b) : Is y b t cs := hi.of (h.block b hi.lt hb)
theorem Mod.below {S : Nat → Prop} {x y z : World} {A : Nat} (h : Mod S y z) (hb : Below A x y) (hA : A ≤ y.heap.size) (hS : ∀ k, S k → A ≤ k) : Below A x z :=
  ⟨h.os.trans hb.os, h.tape.trans hb.tape, h.output.trans hb.output, Nat.le_trans hb.size h.size, fun k hk => (h.block k (Nat.lt_of_lt_of_le hk hA) fun hs => absurd hk (Nat.not_lt.2 (hS k hs))).trans (hb.block k hk)⟩
theorem TabAt.mod {S : Nat → Prop} {w w' : World} (h : TabAt w) (hm : Mod S w w') (h0 : ¬S 0) : TabAt w' := h.of (hm.block 0 h.pos h0)
/-- Whole numbers that are none below 0, as cells. -/
def natsC (l : List Nat) : List Value := l.map fun (x : Nat) => Value.int .i64 ((x : Nat) : Int)
theorem natsC_length (l : List Nat) : (natsC l).length = l.length := by simp [natsC]
theorem natsC_snoc (l : List Nat) (x : Nat) : natsC (l ++ [x]) = natsC l ++ [.int .i64 (x : Int)] := by simp [natsC]
/-- A list that the call owns. -/
def Own (w : World) (B : Nat) (v : Value) (l : List Nat) : Prop := w.ownsRow B 3 1 v l.length (natsC l)
theorem wrap_bits (z : Nat) (h0 : z ≠ 0) (hz : z < 2 ^ 64) : bits BinOp.and IntKind.u64 (z : Int) ((z : Int) - 1) = ((cut z : Nat) : Int) := by
  have e : ((z : Int) - 1) = ((z - 1 : Nat) : Int) := by omega
  rw [e, bits_and_u64_nat _ _ hz (by omega)]
  rfl
theorem beq_zero {z : Nat} (h : z ≠ 0) : ((z : Int) == 0) = false := by simp; exact h
set_option maxHeartbeats 4000000 in
set_option maxRecDepth 100000 in
theorem addNew_any {w : World} (hT : TabAt w) {r1 r2 B x y : Nat} {v : Value} {l : List Nat} (h1 : Is w r1 40 #[.int .u64 x]) (h2 : Is w r2 40 #[.int .u64 y]) (hx : x < 2 ^ 64) (hy : y < 2 ^ 64)
    (ho : Own w B v l) (hl : l.length ≤ 1000) (hB : B ≤ w.heap.size) (hB0 : 0 < B) :
    Calls Tryd.prog 36 #[.slice (some ⟨r1, 0, none⟩) 1 1, .slice (some ⟨r2, 0, none⟩) 1 1, v] w fun e w' =>
      ∃ v', e = .returned v' ∧ Own w' B v' (l ++ bl (fresh y x)) ∧ Is w' r1 40 #[.int .u64 ((x ||| y : Nat) : Int)] ∧ Mod (fun k => k = r1 ∨ B ≤ k) w w' := by
  obtain ⟨i0, hi0, hz0, hz1, hz2⟩ := info_parts info_int
  have HI := Lib.hid hi0
  have HT := Lib.hid hT
  have HO := Lib.hid ho
  have I1 := Lib.hid h1
  have hne := hT.ne h1
  have c1 := h1.at_ 0
  have c2 := h2.at_ 0
  have f1 := h1.free 0
  simp only [List.getElem?_toArray, List.getElem?_cons_zero] at c1 c2
  obtain ⟨z, hz⟩ : ∃ z, fresh y x = z := ⟨_, rfl⟩
  have e1 := bits_andNot y x hy hx
  rw [hz] at e1 ⊢
  have hzl : z < 2 ^ 64 := by rw [← hz]; exact fresh_lt hy
  have e2 : bits .or .u64 (x : Int) (z : Int) = ((x ||| y : Nat) : Int) := by
    rw [bits_or_u64_nat x z hx hzl, ← hz]
    have : x ||| fresh y x = x ||| y := by
      apply Nat.eq_of_testBit_eq
      intro j
      rw [Nat.testBit_or, Nat.testBit_or, fresh_bit]
      cases x.testBit j <;> cases y.testBit j <;> rfl
    rw [this]
  have I2 := Lib.hid (h1.put 0 (.int .u64 ((x ||| y : Nat) : Int)))
  clear hT ho h1 h2 hi0 hz
  go_enter Tryd.func36, Tryd.ntmps36
  go_wp2
  go_loopw [2, 11] (fun v' i wr => (i = .int .i64 0 ∧ v' = v ∧ wr = w) ∨ (i = .int .i64 1 ∧ Hid (Own wr B v' (l ++ bl z) ∧ Is wr r1 40 #[.int .u64 ((x ||| y : Nat) : Int)] ∧ Mod (fun k => k = r1 ∨ B ≤ k) w wr))) (fun _ i _ => 1 - (intOf i).toNat)
  case atStart => exact .inl ⟨rfl, rfl, rfl⟩
  case round =>
    rcases hrel with ⟨rfl, rfl, rfl⟩ | ⟨rfl, HF⟩
    · skip
      have M2 : Hid (Mod (fun k => k = r1 ∨ B ≤ k) wr (wr.setCell ⟨r1, 0, none⟩ (.int .u64 ((x ||| y : Nat) : Int)))) := (Mod.refl _ wr).put (.inl rfl) 0 _
      have O2 : Hid (Own (wr.setCell ⟨r1, 0, none⟩ (.int .u64 ((x ||| y : Nat) : Int))) B u2 l) := own_but HO.out ((But.refl r1 wr).put 0 _) I1.out (by decide)
      go_wp2_with fail
      go_region
      go_wp2
      obtain ⟨w2, hw2⟩ : ∃ w2, wr.setCell ⟨r1, 0, none⟩ (.int .u64 ((x ||| y : Nat) : Int)) = w2 := ⟨_, rfl⟩
      rw [hw2] at I2 M2 O2 ⊢
      clear hw2 c1 c2 f1 e1 e2
      go_loopw [2, 8] (fun v' i wi => ∃ (u : Nat) (d : List Nat), i = .int .u64 u ∧ u < 2 ^ 64 ∧ Hid (d ++ bl u = bl z) ∧ Hid (Own wi B v' (l ++ d)) ∧ Hid (Is wi r1 40 #[.int .u64 ((x ||| y : Nat) : Int)]) ∧ Hid (Mod (fun k => k = r1 ∨ B ≤ k) wr wi)) (fun _ i _ => (intOf i).toNat)
      case atStart => exact ⟨z, [], rfl, hzl, rfl, by rw [List.append_nil]; exact O2.out.drew, I2.out.drew, M2.out.drew⟩
      case round =>
        obtain ⟨u, d, rfl, hu, HD, HO3, HI3, HM3⟩ := hrel
        by_cases hu0 : u = 0
        · subst hu0
          have HE : Hid (d = bl z) := by have := HD.out; rw [bl_zero, List.append_nil] at this; exact this
          go_wp2
          go_roundw
          case rel => exact .inr ⟨rfl, by show _ ∧ _ ∧ _; rw [← HE.out]; exact ⟨HO3.out, HI3.out, HM3.out⟩⟩
          case measure => simp [intOf]
        · have hb := beq_zero hu0
          obtain ⟨k, hc, hk64, hk1, hk2, hk3, _⟩ := low_bit hu0 hu
          have hbl := bl_low hk64 hk2 hk1 hk3
          have hcut := cut_lt hu0
          have hwb := wrap_bits u hu0 hu
          have HT3 : Hid (TabAt wr) := HT.out.mod HM3.out (by rintro (h | h) <;> omega)
          have HC := Lib.hid hc
          have HBL := Lib.hid hbl
          clear hk1 hk2 hk3 hc hbl
          obtain ⟨ao, cp, rfl, _⟩ := Tr.own_slice HO3.out
          obtain ⟨n, hn⟩ : ∃ n, (l ++ d).length = n := ⟨_, rfl⟩
          have hn1 : n ≤ 1100 := by
            have h1 : (bl z).length ≤ 64 := card_le z
            rw [← HD.out, List.length_append] at h1
            rw [List.length_append] at hn
            omega
          have HO4 : Hid (wr.ownsRow B 3 1 (.slice ao n cp) n (natsC (l ++ d))) := by rw [← hn]; exact HO3.out
          have HN := Lib.hid hn
          have hsz : B ≤ wr.heap.size := Nat.le_trans hB HM3.out.size
          rw [hn]
          clear hn HO3
          go_wp2_with fail
          refine (tz_any HT3.out hu hu0 HC.out).mono ?_
          rintro e w3 ⟨rfl, rfl⟩
          go_wp2_with (at_builtin; refine wpList_append_own _ rfl (.tmp 36) (.tmp 42) 23 rfl B 3 i0 (.int .i64 0) 1 8 Tryd.underlying23 HI.out hz0 hz1 hz2 rfl (by decide) _ _ _ rfl (HO4.out.alloc _) ⟨wr.heap.size, 0, none⟩ 1 1 [.int .i64 k] rfl rfl ?c1 ?c2 ?c3 ?c4 ?c5 ?_)
          case c1 => exact cells_made _ _ _
          case c2 => intro u hu; simp at hu; subst hu; rfl
          case c3 => unfold maxLen; omega
          case c4 => omega
          case c5 => simp; omega
          intro v2 w2 hown2 hgr _
          have HO5 : Hid (Own w2 B v2 (l ++ (d ++ [k]))) := by
            show World.ownsRow _ _ _ _ _ _ _
            rw [← List.append_assoc, natsC_snoc, List.length_append, HN.out]
            exact hown2
          have HI5 : Hid (Is w2 r1 40 #[.int .u64 ((x ||| y : Nat) : Int)]) := HI3.out.on HO4.out (by decide) rfl hgr
          have HM5 : Hid (Mod (fun k => k = r1 ∨ B ≤ k) _ w2) := (HM3.out.alloc _).grown hgr (fun i hi _ => .inr ((HO4.out.lt i hi).1))
          have HD5 : Hid (d ++ [k] ++ bl (cut u) = bl z) := by
            rw [← HD.out, HBL.out, List.append_assoc]
            rfl
          clear hown2 hgr HO4 HI3 HM3 HD
          go_wp2
          go_roundw
          case rel => exact ⟨cut u, d ++ [k], rfl, by omega, HD5, HO5, HI5, HM5⟩
          case measure => simp [intOf]; omega
    · have := HF.out
      go_wp2
      go_ret
      exact ⟨_, rfl, this⟩
end Sv
end Go.Proofs.YtbeepedobnaojaaDoor
