/- A slice of structs, opened out of an argument's reading. -/
import Derived.Test.YtbeepedobnaojaaDoorRows
import Derived.Test.YtbeepedobnaojaaDoorClose
import Derived.Test.YtbeepedobnaojaaDoorRowAt
import Derived.OpenShut
import Derived.ChangeSame
namespace Go.Proofs.YtbeepedobnaojaaDoor
open Go.ChangeShapes Go.WideShapes Go.ChangeAt Go.RowKit Go.Deep
namespace Tr
theorem cell_plain {w : World} {a : Addr} {v : Value} (h : w.cell? (a.add 0) = some v) : a = ⟨a.block, a.off, none⟩ ∧ a.block < w.heap.size := by
  have hl := World.block_lt_of_cell? _ _ h
  obtain ⟨b, o, s⟩ := a
  cases s with
  | none => exact ⟨rfl, by rw [add_plain] at hl; exact hl⟩
  | some k =>
    exfalso
    have hsp : ((⟨b, o, some k⟩ : Addr).add 0).spot.isSome = true := rfl
    unfold World.cell? at h
    split at h
    · rw [if_pos hsp] at h
      cases h
    · cases h
theorem bulk_sum {H : Type} {α : Type} (m : α → Nat) : ∀ (ds : List (DataW H)) (l : List α), l.length = ds.length → (∀ (i : Nat) x d, l[i]? = some x → ds[i]? = some d → m x ≤ Rows.uptoBulk d) → (l.map m).sum ≤ Rows.uptoBulkAll ds
  | [], [], _, _ => Nat.zero_le _
  | [], _ :: _, h, _ => by simp at h
  | _ :: _, [], h, _ => by simp at h
  | d :: ds, x :: l, h, hi => by
    have h0 := hi 0 x d rfl rfl
    have := bulk_sum m ds l (by simpa using h) fun i x d hx hd => hi (i + 1) x d (by simpa using hx) (by simpa using hd)
    simp only [List.map_cons, List.sum_cons, Rows.uptoBulkAll]
    omega
section
variable {H : Type} {enc : TypeId × Value → H} {P : Program} {w : World} {base : Nat} {spare : Nat → Bool} {held : Bool}
theorem open_listAt {α : Type} [Inhabited α] {t e : TypeId} {sz fuel : Nat} {cs : List Value} {d : DataW H} {ps : List MemPlace} (Q : α → List Value → Prop) (m : α → Nat) (ht : P.underlying t = some (.slice e)) (ce : P.cellsOf e = sz) (hs : 0 < sz) (hone : ∀ x cs, Q x cs → ∀ u ∈ cs, u.oneCell' = true)
    (IH : ∀ cs d ps, DataW.trod enc P w base spare held fuel e cs = some (d, ps) → ∃ x, Q x cs ∧ m x ≤ Rows.uptoBulk d) (h : DataW.trod enc P w base spare held fuel t cs = some (d, ps)) :
    ∃ (A : Option Addr) (l : List α) (c : Nat), cs = [.slice A l.length c] ∧ ListAt w sz Q A l ∧ l.length ≤ c ∧ (l.map m).sum ≤ Rows.uptoBulk d := by
  rcases DataW.trod_slice ht h with ⟨rfl, hx⟩ | ⟨a, len, cap, elems, rest, n, rfl, rfl, hx, hb, hl, hm, hlen, hel, _, _⟩
  · exact ⟨none, [], 0, rfl, ListAt.none _ _ _ _, Nat.le_refl _, Nat.zero_le _⟩
  · have each : ∀ i, i < len → ∃ q : α × List Value, (∀ j, j < sz → w.cell? (a.add (i * sz + j)) = q.2[j]?) ∧ q.2.length = sz ∧ Q q.1 q.2 ∧ ∀ y, elems[i]? = some y → m q.1 ≤ Rows.uptoBulk y.1 := by
      intro i hi
      have h1 := hel i hi
      rw [ce, List.getElem?_eq_getElem (by omega)] at h1
      obtain ⟨cs', h2, h3⟩ := Option.bind_eq_some_iff.1 h1
      obtain ⟨_, hl', hc⟩ := World.cells?_some h2
      obtain ⟨x, hq, hm'⟩ := IH cs' elems[i].1 elems[i].2 (DataW.trod_le (Nat.le_succ n) h3)
      refine ⟨(x, cs'), fun j hj => ?_, hl', hq, fun y hy => ?_⟩
      · have := hc j hj
        rwa [add_add] at this
      · rw [List.getElem?_eq_getElem (by omega)] at hy
        injection hy with hy
        rw [← hy]
        exact hm'
    obtain ⟨q, hq⟩ := choose_lt each
    have hll : ((List.range len).map fun i => (q i).1).length = len := by simp
    refine ⟨some a, (List.range len).map fun i => (q i).1, cap, by rw [hll], ?_, by rw [hll]; exact hl, ?_⟩
    · have hcell : ∀ k, k < len * sz → ∃ v, w.cell? (a.add k) = some v := by
        intro k hk
        have hsz : 0 < sz := hs
        have hkd : k / sz < len := by rw [Nat.div_lt_iff_lt_mul hsz]; exact hk
        have hkm : k % sz < sz := Nat.mod_lt _ hsz
        have h1 := (hq _ hkd).1 _ hkm
        rw [show k / sz * sz + k % sz = k by have := Nat.div_add_mod k sz; rw [Nat.mul_comm] at this; exact this, List.getElem?_eq_getElem (by rw [(hq _ hkd).2.1]; exact hkm)] at h1
        exact ⟨_, h1⟩
      refine ⟨(List.range (len * sz)).map fun k => (w.cell? (a.add k)).getD (.bool false), ⟨by simp, by rw [hll]; omega⟩, ⟨fun h0 => ?_, fun u hu => ?_⟩, fun i hi => ?_⟩
      · rw [List.length_map, List.length_range] at h0
        obtain ⟨v, hv⟩ := hcell 0 h0
        obtain ⟨hp, hlt⟩ := cell_plain hv
        refine ⟨a.block, a.off, by rw [← hp], hlt, fun k u hu => ?_⟩
        rw [List.getElem?_map] at hu
        obtain ⟨k', hk', rfl⟩ := Option.map_eq_some_iff.1 hu
        obtain ⟨hk, rfl⟩ := List.getElem?_eq_some_iff.1 hk'
        simp at hk
        obtain ⟨v, hv⟩ := hcell k hk
        simp only [List.getElem_range]
        rw [← add_plain, ← hp, hv]
        rfl
      · obtain ⟨k, hk, rfl⟩ := List.mem_map.1 hu
        have hk := List.mem_range.1 hk
        have hkd : k / sz < len := by rw [Nat.div_lt_iff_lt_mul hs]; exact hk
        have hkm : k % sz < sz := Nat.mod_lt _ hs
        have h1 := (hq _ hkd).1 _ hkm
        rw [show k / sz * sz + k % sz = k by have := Nat.div_add_mod k sz; rw [Nat.mul_comm] at this; exact this] at h1
        have hlt : k % sz < (q (k / sz)).2.length := by rw [(hq _ hkd).2.1]; exact hkm
        rw [h1, List.getElem?_eq_getElem hlt]
        exact hone _ _ (hq _ hkd).2.2.1 _ (List.getElem_mem hlt)
      · rw [hll] at hi
        have hqi := hq i hi
        have : (((List.range (len * sz)).map fun k => (w.cell? (a.add k)).getD (.bool false)).drop (i * sz)).take sz = (q i).2 := by
          apply List.ext_getElem?
          intro j
          have hle : i * sz + sz ≤ len * sz := by
            have : (i + 1) * sz ≤ len * sz := Nat.mul_le_mul_right _ hi
            rwa [Nat.succ_mul] at this
          by_cases hj : j < sz
          · rw [List.getElem?_take, if_pos hj, List.getElem?_drop, List.getElem?_map, List.getElem?_range (by omega)]
            show some ((w.cell? (a.add (i * sz + j))).getD (.bool false)) = _
            rw [hqi.1 j hj, List.getElem?_eq_getElem (by rw [hqi.2.1]; exact hj)]
            rfl
          · rw [List.getElem?_take, if_neg hj, List.getElem?_eq_none (by rw [hqi.2.1]; omega)]
        rw [this]
        simp only [List.getElem_map, List.getElem_range]
        exact hqi.2.2.1
    · injection hx with hd _
      rw [hd]
      have := bulk_sum m (elems.map (·.1)) ((List.range len).map fun i => (q i).1) (by rw [hll, List.length_map, hlen]) (fun i x d hx hd => by
        rw [List.getElem?_map] at hx hd
        obtain ⟨i', hi', rfl⟩ := Option.map_eq_some_iff.1 hx
        obtain ⟨hi, rfl⟩ := List.getElem?_eq_some_iff.1 hi'
        simp at hi
        obtain ⟨y, hy, rfl⟩ := Option.map_eq_some_iff.1 hd
        simp only [List.getElem_range]
        exact (hq i hi).2.2.2 y hy)
      simp only [Rows.uptoBulk]
      omega
end
end Tr
end Go.Proofs.YtbeepedobnaojaaDoor
