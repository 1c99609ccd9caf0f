/- Layer 7: a builder's String, at this program's numbers; Text, where only references and whole numbers are in a type. -/
import Derived.Shelf.Strings.BuilderF
import Derived.Test.YtiljpnghahkjhaaDoorTypesN
namespace Go.Proofs.YtiljpnghahkjhaaDoor
open Go.RowKit Go.Shelf Go.Deep Tr
namespace Ts
def sren : Go.Shelf.Ren := ⟨fun | 169 => 51 | n => n, fun | 70 => 61 | 9 => 9 | 0 => 0 | 72 => 64 | 37 => 62 | 127 => 76 | 3 => 3 | 5 => 5 | n => n, fun | n => n⟩
theorem slays : Go.Proofs.Lays.n169 Tryd.prog sren := {
  mixed := by kernel_rfl
  f169 := Tryd.func51.trans (congrArg some (by kernel_rfl))
  t0 := Tryd.underlying0
  a0 := Tryd.isAgg0
  z0 := Tryd.sizeOf0
  v0 := Tryd.zeroValue0
  t3 := Tryd.underlying3
  a3 := Tryd.isAgg3
  z3 := Tryd.sizeOf3
  v3 := Tryd.zeroValue3
  t9 := Tryd.underlying9
  a9 := Tryd.isAgg9
  z9 := Tryd.sizeOf9
  v9 := Tryd.zeroValue9
  t37 := Tryd.underlying62
  a37 := Tryd.isAgg62
  z37 := Tryd.sizeOf62
  v37 := Tryd.zeroValue62
  t70 := Tryd.underlying61
  a70 := Tryd.isAgg61
  z70 := Tryd.sizeOf61
  v70 := Tryd.zeroValue61
  t72 := Tryd.underlying64
  a72 := Tryd.isAgg64
  z72 := Tryd.sizeOf64
  v72 := Tryd.zeroValue64
  t127 := Tryd.underlying76
  a127 := Tryd.isAgg76
  z127 := Tryd.sizeOf76
  v127 := Tryd.zeroValue76 }
theorem sextra : Builder.Extra Tryd.prog sren := {
  sizeBuilder := by kernel_rfl
  liesBuilder := by kernel_rfl
  t5 := Tryd.underlying5
  a5 := Tryd.isAgg5
  z5 := Tryd.sizeOf5
  v5 := Tryd.zeroValue5
  infoByte := by kernel_rfl
  cellsByte := by kernel_rfl
  sizeByte := by kernel_rfl
  neB5 := by decide }
open Go.RowKit in
theorem string_any (B b : Nat) (l : List UInt8) (w : World) (h : Lib.IsBuilderF 64 5 B b (Lib.byteCells l) w) (hBw : B ≤ w.heap.size) :
    Calls Tryd.prog 51 #[.pointer (some ⟨b, 0, none⟩)] w fun e w' => e = .returned (.string ⟨l.toArray⟩) ∧ (Lib.IsBuilderF 64 5 B b (Lib.byteCells l) w' ∧ Below B w w') := Any.Builder_String_any_f slays sextra B b l w h hBw
theorem put_any (b : Nat) : ∀ n, PutS b n
  | 0 => fun _ _ _ _ _ h _ _ _ _ _ => h.elim
  | n + 1 => put_step b n (Lib.hid (put_any b n))
theorem bu_new (w : World) : BuF w.heap.size [] (w.alloc (.cells #[.pointer none, .slice none 0 0] 64)) := by
  refine .inl ⟨Nat.le_refl _, .slice none 0 0, Is.made w 64 #[.pointer none, .slice none 0 0], ⟨rfl, .inl ⟨rfl, rfl⟩⟩, by simp [Value.ownBlock]⟩
theorem text_any {n : Nat} {x : Ty} {cs : List Value} {w : World} {l : List UInt8} (h : TyAt w n x cs) (hp : Pl x) (hl : textC x = Lib.byteCells l) (hb : l.length ≤ Lim) :
    Calls Tryd.prog 27 #[.agg cs.toArray] w fun e w' => e = .returned (.string ⟨l.toArray⟩) ∧ Below w.heap.size w w' := by
  obtain ⟨k, nm, u, r, R, lr, cr, A, la, ca, rfl⟩ := h.shape
  obtain ⟨o1, ho1⟩ : ∃ o, Obj.cells #[.int .i64 k, .string nm, .bool u, .int .i64 r, .slice R lr cr, .slice A la ca] 25 = o := ⟨_, rfl⟩
  have I1 : Is (w.alloc o1) w.heap.size 25 #[.int .i64 k, .string nm, .bool u, .int .i64 r, .slice R lr cr, .slice A la ca] := by rw [← ho1]; exact Is.made w _ _
  obtain ⟨o2, ho2⟩ : ∃ o, Obj.cells #[.pointer none, .slice none 0 0] 64 = o := ⟨_, rfl⟩
  have hB := bu_new (w.alloc o1)
  rw [ho2] at hB
  have hN : (w.alloc o1).heap.size = w.heap.size + 1 := by simp
  have hW : Below w.heap.size w ((w.alloc o1).alloc o2) := ((Below.refl _ w).alloc (Nat.le_refl _) o1).alloc (by omega) o2
  have hPT := put_any (w.alloc o1).heap.size n x _ w ((w.alloc o1).alloc o2) [] h hW (by omega) hB hp (by rw [hl, List.nil_append, Lib.byteCells_length]; exact hb)
  rw [List.nil_append, hl] at hPT
  have n0 := (I1.alloc o2).at_ 0
  have n1 := (I1.alloc o2).at_ 1
  have n2 := (I1.alloc o2).at_ 2
  have n3 := (I1.alloc o2).at_ 3
  have n4 := (I1.alloc o2).at_ 4
  have n5 := (I1.alloc o2).at_ 5
  simp only [List.getElem?_toArray, List.getElem?_cons_zero, List.getElem?_cons_succ] at n0 n1 n2 n3 n4 n5
  rw [hN] at hPT
  obtain ⟨b, hbb⟩ : ∃ b, w.heap.size + 1 = b := ⟨_, rfl⟩
  have hbw : w.heap.size ≤ b := by omega
  rw [hbb] at hPT
  have HPT := Lib.hid hPT
  have HBB := Lib.hid hbb
  have HW := Lib.hid hW
  have HBW := Lib.hid hbw
  have HO1 := Lib.hid ho1
  have HO2 := Lib.hid ho2
  clear h hp hl hb I1 hB hN hW hPT hbb hbw ho1 ho2
  go_enter Tryd.func27, Tryd.ntmps27
  go_wp2_with fail
  rw [HO1.out, HO2.out, HBB.out]
  refine HPT.out.mono ?_
  rintro e W1 ⟨rfl, q1, q2⟩
  have K1 := Lib.hid q2
  have HST := Lib.hid (string_any b b l W1 q1 (Nat.le_of_lt (bu_lt q1)))
  have B1 : Hid (Below w.heap.size w W1) := q2.below HW.out HBW.out HW.out.size (fun k e => by injection e with e; rw [← e]; exact HBW.out)
  clear q1 q2 n0 n1 n2 n3 n4 n5 HPT
  go_wp2_with fail
  refine HST.out.mono ?_
  rintro e W2 ⟨rfl, _, b2⟩
  have B2 : Hid (Below w.heap.size w W2) := B1.out.trans (b2.mono HBW.out)
  clear b2 HST B1 K1
  go_wp2
  go_ret
  exact ⟨rfl, B2.out⟩
end Ts
end Go.Proofs.YtiljpnghahkjhaaDoor
