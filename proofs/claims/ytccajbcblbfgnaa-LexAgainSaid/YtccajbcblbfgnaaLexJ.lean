/- The walks of layer 1's Put, and of the law LexPuts. -/
import Derived.Test.YtccajbcblbfgnaaLexS
import Derived.Test.YtccajbcblbfgnaaLexK
import Derived.Test.YtccajbcblbfgnaaShelf
import Derived.Lib.Join
namespace Go.Proofs.Ytccajbcblbfgnaa
open Go.RowKit Lx
theorem bs_append (a b : ByteArray) : bs (a ++ b) = bs a ++ bs b := by
  unfold bs
  simp
theorem vstr {a b : ByteArray} (h : a = b) : Value.string a = .string b := by rw [h]
theorem join_snoc (l : List Bs) (x sep : Bs) : Lib.join (l ++ [x]) sep = if l = [] then x else Lib.join l sep ++ sep ++ x := by
  cases l with
  | nil => exact Lib.join_one x sep
  | cons a r =>
    rw [if_neg (by simp), List.cons_append, Lib.join_cons, Lib.join_cons]
    simp [Lib.joinTail]
theorem join_len (l : List Bs) (sep : Bs) (h : ∀ x ∈ l, x.length ≤ 200) (hs : sep.length = 1) : (Lib.join l sep).length ≤ 201 * l.length := by
  cases l with
  | nil => simp [Lib.join_nil]
  | cons a r =>
    rw [Lib.join_cons]
    have ha := h a List.mem_cons_self
    have hr : ∀ r : List Bs, (∀ x ∈ r, x.length ≤ 200) → (Lib.joinTail sep r).length ≤ 201 * r.length := by
      intro r hr
      induction r with
      | nil => simp [Lib.joinTail]
      | cons b r ih =>
        have hb := hr b List.mem_cons_self
        have := ih fun x hx => hr x (List.mem_cons_of_mem _ hx)
        simp only [Lib.joinTail, List.map_cons, List.flatten_cons, List.length_append, List.length_cons] at this ⊢
        omega
    have := hr r fun x hx => h x (List.mem_cons_of_mem _ hx)
    simp only [List.length_append, List.length_cons]
    omega
def joinB (L : List ByteArray) : Bs := Lib.join (L.map bs) [32]
theorem cell_plain {w : World} {a : Addr} {v : Value} (h : w.cell? a = some v) : a = ⟨a.block, a.off, none⟩ := by
  obtain ⟨b, o, s⟩ := a
  cases s with
  | none => rfl
  | some k =>
    unfold World.cell? at h
    split at h
    · simp at h
    · cases h
theorem add_plain' (b o i : Nat) : (⟨b, o, none⟩ : Addr).add i = ⟨b, o + i, none⟩ := by
  unfold Addr.add; split <;> simp_all
theorem Strs.below {w w' : World} {A : Option Addr} {L : List ByteArray} (h : Strs w A L) (hb : Below w.heap.size w w') : Strs w' A L := fun h0 => by
  obtain ⟨ad, e, hl, hc⟩ := h h0
  refine ⟨ad, e, Nat.lt_of_lt_of_le hl hb.size, fun i hi => ?_⟩
  have : (ad.add i).block = ad.block := by unfold Addr.add; split <;> rfl
  exact (hb.cell (by rw [this]; exact hl)).trans (hc i hi)
theorem lput_any (L : List ByteArray) (A : Option Addr) (c : Nat) (w : World) (hA : Strs w A L) (hc : L.length ≤ c) (hn : L.length ≤ 1000000) (hlen : (joinB L).length ≤ 1000000) :
    Calls Try.prog 13 #[.slice A L.length c] w fun e w' => e = .returned (.string ⟨(joinB L).toArray⟩) ∧ Below w.heap.size w w' := by
  by_cases h0 : L = []
  · subst h0
    have hj := fun w => Go.Proofs.Try.strings_Join_none A c ⟨#[32]⟩ w
    go_enter Try.func13, Try.ntmps13
    go_wp2_with fail
    refine (hj _).mono ?_
    rintro e w' ⟨rfl, rfl⟩
    go_wp2
    go_ret
    exact ⟨rfl, Below.refl _ _⟩
  · have hpos : 0 < L.length := List.length_pos_iff.2 h0
    obtain ⟨ad, rfl, hb, hcell⟩ := hA hpos
    have hpl := cell_plain (hcell 0 hpos)
    obtain ⟨bk, o, sp⟩ := ad
    have hsp : sp = none := by
      have := congrArg Addr.spot hpl
      simpa [Addr.add] using this
    subst hsp
    have hj := Go.Proofs.Try.strings_Join bk o c L ⟨#[32]⟩ w (fun j x hx => by
      obtain ⟨hjl, rfl⟩ := List.getElem?_eq_some_iff.1 hx
      rw [← add_plain']
      exact hcell j hjl) hb (by omega) hc (by
        have : (Lib.join (L.map (·.data.toList)) ([32] : Bs)).length ≤ 1000000 := hlen
        exact Nat.le_trans this (by decide))
    have HJ := Lib.hid hj
    clear hj hcell hpl h0
    go_enter Try.func13, Try.ntmps13
    go_wp2_with fail
    refine HJ.out.mono ?_
    rintro e w' ⟨rfl, q⟩
    go_wp2
    go_ret
    exact ⟨rfl, q⟩
theorem rput_any (L : List ByteArray) (A : Option Addr) (c : Nat) (w : World) (hA : Strs w A L) (hn : L.length ≤ 1000000) (hl : ∀ x ∈ L, x.size ≤ 200) :
    Calls Try.prog 14 #[.slice A L.length c] w fun e w' => e = .returned (.string ⟨(joinB L).toArray⟩) ∧ w = w' := by
  have HA := Lib.hid hA
  have HL := Lib.hid hl
  clear hA hl
  go_enter Try.func14, Try.ntmps14
  go_wp2
  go_loop [3, 4] (fun t i => ∃ (k : Nat) (u : ByteArray), k ≤ L.length ∧ i = .int .i64 k ∧ t = .string u ∧ u.size ≤ 201 * k ∧ Hid (bs u = joinB (L.take k))) (fun _ i => L.length - (intOf i).toNat)
  case atStart => exact ⟨0, ⟨#[]⟩, Nat.zero_le _, rfl, rfl, by decide, rfl⟩
  case round =>
    obtain ⟨k, u, hk, rfl, rfl, hu, HI⟩ := hrel
    by_cases hlt : k < L.length
    · obtain ⟨ad, rfl, _, hc⟩ := HA.out (by omega)
      have hck := hc k hlt
      obtain ⟨x, hx⟩ : ∃ x, L[k] = x := ⟨_, rfl⟩
      have hxs := HL.out x (by rw [← hx]; exact List.getElem_mem hlt)
      have hstep : joinB (L.take (k + 1)) = if k = 0 then bs x else joinB (L.take k) ++ [32] ++ bs x := by
        unfold joinB
        rw [List.take_succ_eq_append_getElem hlt, List.map_append, hx, List.map_cons, List.map_nil, join_snoc]
        by_cases hk0 : k = 0
        · subst hk0; rfl
        · rw [if_neg hk0, if_neg]
          intro e
          have := congrArg List.length e
          rw [List.length_map, List.length_take, Nat.min_eq_left (by omega)] at this
          exact hk0 (by simpa using this)
      rw [hx] at hck
      have HST := Lib.hid hstep
      clear hc hx hstep
      by_cases hk0 : k = 0
      · subst hk0
        have hck0 : w.cell? ad = some (.string x) := hck
        have hu0 : u = ⟨#[]⟩ := bs_inj HI.out
        subst hu0
        clear hck
        go_wp2
        go_round
        case rel => exact ⟨1, x, by omega, by go_num, vstr (bs_inj (by rw [bs_append]; rfl)), by omega, by rw [HST.out, if_pos rfl]; rfl⟩
        case measure => simp [intOf]; omega
      · have hsz : (u ++ ⟨#[32]⟩ ++ x).size ≤ 201 * (k + 1) := by
          have e : (u ++ ⟨#[32]⟩ ++ x : ByteArray).size = u.size + 1 + x.size := by rw [← bs_len, bs_append, bs_append, List.length_append, List.length_append, bs_len, bs_len]; rfl
          rw [e]; omega
        have HSZ := Lib.hid hsz
        have HK := Lib.hid hk0
        clear hsz
        go_wp2
        go_round
        case rel => exact ⟨k + 1, u ++ ⟨#[32]⟩ ++ x, by omega, by go_num, rfl, HSZ.out, by rw [HST.out, if_neg HK.out, bs_append, bs_append, HI.out]; rfl⟩
        case measure => simp [intOf]; omega
    · have hkn : k = L.length := by omega
      have HF : Hid (bs u = joinB L) := by
        have := HI.out
        rw [hkn, List.take_of_length_le (Nat.le_refl _)] at this
        exact this
      clear hkn
      go_wp2
      go_ret
      exact ⟨by rw [← HF.out]; rfl, rfl⟩
theorem joinB_len (L : List ByteArray) (hl : ∀ x ∈ L, x.size ≤ 200) : (joinB L).length ≤ 201 * L.length := by
  have := join_len (L.map bs) [32] (fun x hx => by
    obtain ⟨y, hy, rfl⟩ := List.mem_map.1 hx
    exact hl y hy) rfl
  rw [List.length_map] at this
  exact this
theorem lexPuts_walk (L : List ByteArray) (A : Option Addr) (c : Nat) (w : World) (hA : Strs w A L) (hc : L.length ≤ c) (hn : L.length ≤ maxLen) (hm : ∀ x ∈ L, x.size ≤ maxLen) :
    Calls Try.prog 5 #[.slice A L.length c] w fun e w' => e = .returned (.bool true) ∧ Below w.heap.size w w' := by
  unfold maxLen at hn hm
  have HA := Lib.hid hA
  have HM := Lib.hid hm
  clear hA hm
  by_cases h : 40 < L.length
  · go_enter Try.func5, Try.ntmps5
    go_wp2_with fail
    refine (cut_any _).mono ?_
    rintro e x1 ⟨rfl, q1⟩
    go_wp2_with fail
    refine (cut_any _).mono ?_
    rintro e x2 ⟨rfl, q2⟩
    go_wp2
    go_ret
    exact ⟨rfl, q1.trans (q2.mono q1.size)⟩
  · go_enter Try.func5, Try.ntmps5
    go_wp2_with fail
    refine (cut_any _).mono ?_
    rintro e x1 ⟨rfl, q1⟩
    have HA1 := Lib.hid (HA.out.below q1)
    go_wp2_with fail
    go_loop [3] (fun i => ∃ k : Nat, k ≤ L.length ∧ i = .int .i64 k ∧ Hid (∀ x ∈ L.take k, x.size ≤ 200)) (fun i => L.length - (intOf i).toNat)
    case atStart => exact ⟨0, Nat.zero_le _, rfl, fun x hx => by cases hx⟩
    case round =>
      obtain ⟨k, hk, rfl, HI⟩ := hrel
      by_cases hlt : k < L.length
      · obtain ⟨ad, rfl, _, hcell⟩ := HA1.out (by omega)
        have hck := hcell k hlt
        obtain ⟨x, hx⟩ : ∃ x, L[k] = x := ⟨_, rfl⟩
        have hxm := HM.out x (by rw [← hx]; exact List.getElem_mem hlt)
        have hst : x.size ≤ 200 → ∀ y ∈ L.take (k + 1), y.size ≤ 200 := by
          intro hs y hy
          rw [List.take_succ_eq_append_getElem hlt, List.mem_append, hx] at hy
          rcases hy with hy | hy
          · exact HI.out y hy
          · rw [List.mem_singleton.1 hy]; exact hs
        rw [hx] at hck
        have HST := Lib.hid hst
        clear hcell hx hst
        by_cases hb : 200 < x.size
        · by_cases hk0 : k = 0
          · subst hk0
            have hck0 : x1.cell? ad = some (.string x) := hck
            go_wp2
            go_ret
            exact ⟨rfl, q1⟩
          · go_wp2
            go_ret
            exact ⟨rfl, q1⟩
        · by_cases hk0 : k = 0
          · subst hk0
            have hck0 : x1.cell? ad = some (.string x) := hck
            go_wp2
            go_round
            case rel => exact ⟨1, by omega, by go_num, HST.out (by omega)⟩
            case measure => simp [intOf]; omega
          · go_wp2
            go_round
            case rel => exact ⟨k + 1, by omega, by go_num, HST.out (by omega)⟩
            case measure => simp [intOf]; omega
      · have HL : Hid (∀ x ∈ L, x.size ≤ 200) := by
          have := HI.out
          rw [List.take_of_length_le (by omega)] at this
          exact this
        go_wp2_with fail
        refine (lput_any L A c _ HA1.out hc (by omega) (Nat.le_trans (joinB_len L HL.out) (by omega))).mono ?_
        rintro e x2 ⟨rfl, q2⟩
        go_wp2_with fail
        refine (rput_any L A c _ (HA1.out.below q2) (by omega) HL.out).mono ?_
        rintro e x3 ⟨rfl, rfl⟩
        go_wp2
        go_ret
        exact ⟨rbool (by simp), q1.trans (q2.mono q1.size)⟩
end Go.Proofs.Ytccajbcblbfgnaa
