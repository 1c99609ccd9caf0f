/- The walks of layer 1's marks. -/
import Derived.Test.YtccajbcblbfgnaaLexT
namespace Go.Proofs.Ytccajbcblbfgnaa
open Go.RowKit Lx
theorem markc_any (s m : ByteArray) (b : Nat) (w : World) (hs : s.size ≤ maxLen) (hm : m.size ≤ maxLen) (hc : w.cell? ⟨b, 0, none⟩ = some (.string s)) :
    Calls Try.prog 61 #[.string m, .pointer (some ⟨b, 0, none⟩)] w fun e w' => e = .returned (.bool (preB s m)) ∧ w = w' := by
  go_enter Try.func61, Try.ntmps61
  go_wp2_with fail
  refine (prefix_any s m _ hs hm).mono ?_
  rintro e w' ⟨rfl, rfl⟩
  go_wp2
  go_ret
  exact ⟨rfl, rfl⟩
def markB (k : Nat) : ByteArray := ⟨(marksL.getD k []).toArray⟩
def marksA : Array Value := #[.string ⟨#[45, 62]⟩, .string ⟨#[61, 61]⟩, .string ⟨#[38, 38]⟩, .string ⟨#[40]⟩, .string ⟨#[41]⟩, .string ⟨#[123]⟩, .string ⟨#[125]⟩, .string ⟨#[60]⟩, .string ⟨#[62]⟩, .string ⟨#[44]⟩, .string ⟨#[59]⟩, .string ⟨#[58]⟩, .string ⟨#[61]⟩, .string ⟨#[38]⟩, .string ⟨#[124]⟩, .string ⟨#[43]⟩, .string ⟨#[45]⟩, .string ⟨#[42]⟩, .string ⟨#[47]⟩, .string ⟨#[33]⟩, .string ⟨#[46]⟩]
theorem marksA_eq : marksA = (marksL.map fun m => Value.string ⟨m.toArray⟩).toArray := rfl
theorem marksA_at (k : Nat) (hk : k < 21) : marksA[k]? = some (.string (markB k)) := by
  have hk' : k < marksL.length := hk
  rw [marksA_eq, List.getElem?_toArray, List.getElem?_map, List.getElem?_eq_getElem hk']
  simp [markB, List.getD, List.getElem?_eq_getElem hk']
theorem markB_size (k : Nat) : (markB k).size ≤ 2 := by
  show (marksL.getD k []).length ≤ 2
  by_cases hk : k < 21
  · have : ∀ k : Fin 21, (marksL.getD k.val []).length ≤ 2 := by decide
    exact this ⟨k, hk⟩
  · rw [List.getD, List.getElem?_eq_none (by show 21 ≤ k; omega)]; exact Nat.zero_le _
def markZ (l : Bs) : Int := if markI l = 21 then -1 else markI l
theorem index_any (s : ByteArray) (mb sb : Nat) (w : World) (hs : s.size ≤ maxLen) (hm : Is w mb 9 marksA) (hc : w.cell? ⟨sb, 0, none⟩ = some (.string s)) :
    Calls Try.prog 60 #[.slice (some ⟨mb, 0, none⟩) 21 21, .func (.func 61) #[] #[.pointer (some ⟨sb, 0, none⟩)]] w fun e w' => e = .returned (.int .i64 (markZ (bs s))) ∧ w = w' := by
  have HM := Lib.hid hs
  have HI := Lib.hid hm
  have HC := Lib.hid hc
  have hle := markI_le (bs s)
  clear hs hm hc
  go_enter Try.func60, Try.ntmps60
  go_wp2_with fail
  go_loop [8] (fun i => ∃ k : Nat, k ≤ 21 ∧ k ≤ markI (bs s) ∧ i = .int .i64 k) (fun i => 21 - (intOf i).toNat)
  case atStart => exact ⟨0, by omega, by omega, rfl⟩
  case round =>
    obtain ⟨k, hk, hki, rfl⟩ := hrel
    by_cases hlt : k < 21
    · have hcell := (HI.out.at_ k).trans (marksA_at k hlt)
      have hhit := markI_hit (bs s) k hlt hki
      by_cases hp : preB s (markB k) = true
      · have HE := Lib.hid (hhit.1 hp)
        clear hhit
        go_wp2_with (go_at_call 61; refine (markc_any s _ sb _ HM.out (Nat.le_trans (markB_size k) (by decide)) HC.out).mono ?_; rintro e w' ⟨rfl, rfl⟩)
        go_ret
        have e := HE.out
        exact ⟨rint (by unfold markZ; rw [if_neg (by omega), e]), rfl⟩
      · have HE := Lib.hid (fun h => hp (hhit.2 h))
        clear hhit
        go_wp2_with (go_at_call 61; refine (markc_any s _ sb _ HM.out (Nat.le_trans (markB_size k) (by decide)) HC.out).mono ?_; rintro e w' ⟨rfl, rfl⟩)
        go_round
        case rel =>
          have e : ¬ markI (bs s) = k := HE.out
          exact ⟨k + 1, by omega, by omega, by go_num⟩
        case measure => simp [intOf]; omega
    · have he : markI (bs s) = 21 := by omega
      have HE := Lib.hid he
      clear he
      go_wp2
      go_ret
      exact ⟨rint (by unfold markZ; rw [if_pos HE.out]), rfl⟩
theorem index_at (s : ByteArray) (w : World) (hs : s.size ≤ maxLen) (o : Obj) :
    Calls Try.prog 60 #[.slice (some ⟨w.heap.size + 1 + 1, 0, none⟩) 21 21, .func (.func 61) #[] #[.pointer (some ⟨w.heap.size, 0, none⟩)]] (((w.alloc (.cells #[.string s] 9)).alloc o).alloc (.cells marksA 9))
      fun e w' => e = .returned (.int .i64 (markZ (bs s))) ∧ (((w.alloc (.cells #[.string s] 9)).alloc o).alloc (.cells marksA 9)) = w' := by
  have h := Is.made ((w.alloc (.cells #[.string s] 9)).alloc o) 9 marksA
  rw [show ((w.alloc (.cells #[.string s] 9)).alloc o).heap.size = w.heap.size + 1 + 1 from by simp] at h
  exact index_any s _ _ _ hs h ((((Is.made w 9 #[.string s]).alloc _).alloc _).at_ 0)
theorem mark_cell (s : ByteArray) (w : World) (o : Obj) (k : Nat) (hk : k < 21) :
    (((w.alloc (.cells #[.string s] 9)).alloc o).alloc (.cells marksA 9)).cell? ⟨w.heap.size + 1 + 1, k, none⟩ = some (.string (markB k)) := by
  have h := Is.made ((w.alloc (.cells #[.string s] 9)).alloc o) 9 marksA
  rw [show ((w.alloc (.cells #[.string s] 9)).alloc o).heap.size = w.heap.size + 1 + 1 from by simp] at h
  exact (h.at_ k).trans (marksA_at k hk)
theorem mark_none (s : ByteArray) (hs : s.size ≤ maxLen) (w : World) (h : markI (bs s) = 21) :
    Calls Try.prog 47 #[.string s] w fun e w' => e = .returned (tokV s (bad 1)) ∧ Below w.heap.size w w' := by
  have HM := Lib.hid hs
  have hz : markZ (bs s) = -1 := if_pos h
  have HZ := Lib.hid hz
  clear hz h
  go_enter Try.func47, Try.ntmps47
  go_wp2_with fail
  refine (index_at s w HM.out _).mono ?_
  rintro e w' ⟨rfl, rfl⟩
  rw [HZ.out]
  unfold marksA
  go_wp2
  refine bodyPost_ret (v := .tuple #[.agg #[.int .i64 0, .string ⟨#[]⟩, .int .i64 0, .int .i64 0, .int .u64 0], .int .i64 1]) (by simp [results, Try.results47, go_sem]) rfl ⟨?_, (((Below.refl _ _).alloc (Nat.le_refl _) _).alloc (by simp) _).alloc (by simp; omega) _⟩
  rfl
theorem mark_some (s : ByteArray) (hs : s.size ≤ maxLen) (w : World) (k : Nat) (hk : k < 21) (h : markI (bs s) = k) :
    Calls Try.prog 47 #[.string s] w fun e w' => e = .returned (.tuple #[.agg #[.int .i64 5, .string (markB k), .int .i64 0, .int .i64 0, .int .u64 0], .int .i64 0]) ∧ Below w.heap.size w w' := by
  have HM := Lib.hid hs
  have hz : markZ (bs s) = k := by unfold markZ; rw [if_neg (by omega), h]
  have HZ := Lib.hid hz
  have hc := fun o => mark_cell s w o k hk
  clear hz h
  go_enter Try.func47, Try.ntmps47
  go_wp2_with fail
  refine (index_at s w HM.out _).mono ?_
  rintro e w' ⟨rfl, rfl⟩
  rw [HZ.out]
  go_wp2
  refine bodyPost_ret (v := .tuple #[.agg #[.int .i64 5, .string (markB k), .int .i64 0, .int .i64 0, .int .u64 0], .int .i64 0]) (by simp [results, Try.results47, go_sem]) rfl ⟨?_, (((Below.refl _ _).alloc (Nat.le_refl _) _).alloc (by simp) _).alloc (by simp; omega) _⟩
  rfl
theorem mark_any (s : ByteArray) (hs : s.size ≤ maxLen) (w : World) :
    Calls Try.prog 47 #[.string s] w fun e w' => e = .returned (tokV s (markS (bs s))) ∧ Below w.heap.size w w' := by
  have hle := markI_le (bs s)
  by_cases h : markI (bs s) = 21
  · rw [markS_eq, if_pos h]
    exact mark_none s hs w h
  · have hlt : markI (bs s) < 21 := by omega
    refine (mark_some s hs w _ hlt rfl).mono ?_
    rintro e w' ⟨rfl, hb⟩
    refine ⟨?_, hb⟩
    rw [markS_eq, if_neg h]
    have hp := (markI_hit (bs s) _ hlt (Nat.le_refl _)).2 rfl
    have e2 : takeB s (marksL.getD (markI (bs s)) []).length = markB (markI (bs s)) := by
      apply bs_inj
      rw [List.isPrefixOf_iff_prefix, List.prefix_iff_eq_take] at hp
      exact hp.symm
    simp only [tokV]
    rw [e2]; rfl
theorem takeB_size {s : ByteArray} {n : Nat} (h : n ≤ s.size) : (takeB s n).size = n := by
  rw [← bs_len, bs_takeB, List.length_take, bs_len]; omega
def tok0 : Array Value := #[.int .i64 0, .string ⟨#[]⟩, .int .i64 0, .int .i64 0, .int .u64 0]
theorem takeB_takeB (s : ByteArray) {n m : Nat} (h : m ≤ n) : takeB (takeB s n) m = takeB s m := bs_inj (by rw [bs_takeB, bs_takeB, bs_takeB, List.take_take, Nat.min_eq_left h])
set_option maxHeartbeats 1000000 in
theorem first_any (s : ByteArray) (h0 : 0 < s.size) (hs : s.size ≤ maxLen) (w : World) :
    Calls Try.prog 29 #[.string s] w fun e w' => e = .returned (tokV s (tokS (bs s))) ∧ Below w.heap.size w w' := by
  have HM := Lib.hid hs
  unfold maxLen at hs
  have hd := drop_at s 0 h0
  rw [List.drop_zero] at hd
  have hn := spanN_le innerB s
  obtain ⟨n, hsn⟩ : ∃ n, spanN innerB s = n := ⟨_, rfl⟩
  have hsp := span_inner s HM.out
  rw [hsn] at hsp hn
  have HSP := Lib.hid hsp
  have htk : (bs s).takeWhile innerB = bs (takeB s n) := by rw [tw_take, bs_takeB, ← hsn]; rfl
  have HTK := Lib.hid htk
  have hts : tokS (bs s) = if letterB s[0] then nameS n else if digitB s[0] then numS (bs (takeB s n)) else if s[0].toNat = 39 then lifeS ((bs s).drop 1) else markS (bs s) := by
    rw [← htk, ← hsn]
    unfold spanN
    rw [hd]; rfl
  clear hsp hd hsn htk
  by_cases hl : letterB s[0] = true
  · rw [if_pos hl] at hts
    obtain ⟨t, ht⟩ : ∃ t, t = nameS n := ⟨_, rfl⟩
    have HLE := Lib.hid (nameS_len n).1
    rw [← ht] at HLE
    have Ht := Lib.hid ht
    have HT := Lib.hid hts
    clear hts ht
    go_enter Try.func29, Try.ntmps29
    go_wp2_with (first | (go_at_call 41; refine (letter_any _ _).mono ?_; rintro e w' ⟨rfl, rfl⟩) | (go_at_call 44; refine (digit_any _ _).mono ?_; rintro e w' ⟨rfl, rfl⟩) | (go_at_call 37; refine (HSP.out _).mono ?_; rintro e w' ⟨rfl, rfl⟩))
    rw [extract_takeB]
    refine (name_any _ (by rw [takeB_size hn]; unfold maxLen; omega) _).mono ?_
    rw [takeB_size hn, ← Ht.out]
    rintro e w1 ⟨rfl, hb⟩
    have hi := (Is.made w 42 tok0).below hb (by simp)
    have f0 := hi.free 0
    have f1 := hi.free 1
    have f2 := hi.free 2
    have f3 := hi.free 3
    have f4 := hi.free 4
    have c0 := hi.at_ 0
    have c1 := hi.at_ 1
    have c2 := hi.at_ 2
    have c3 := hi.at_ 3
    have c4 := hi.at_ 4
    simp only [tok0, List.getElem?_toArray, List.getElem?_cons_zero, List.getElem?_cons_succ] at c0 c1 c2 c3 c4
    unfold tokV
    go_wp2
    refine bodyPost_ret (v := .tuple #[.agg #[.int .i64 t.kind, .string (takeB (takeB s n) t.len), .int .i64 0, .int .i64 0, .int .u64 t.val], .int .i64 t.code]) (by simp [results, Try.results29, go_sem, c0, c1, c2, c3, c4]) rfl ⟨?_, ?_⟩
    · rw [HT.out, ← Ht.out]; simp only [tokV]; rw [takeB_takeB s HLE.out]
    · exact (((((((Below.refl _ _).alloc (Nat.le_refl _) _).trans (hb.mono (by simp))).setCell (Nat.le_refl _) _).setCell (Nat.le_refl _) _).setCell (Nat.le_refl _) _).setCell (Nat.le_refl _) _).setCell (Nat.le_refl _) _
  · have hlf : letterB s[0] = false := eq_false_of_ne_true hl
    rw [if_neg hl] at hts
    by_cases hdg : digitB s[0] = true
    · rw [if_pos hdg] at hts
      obtain ⟨t, ht⟩ : ∃ t, t = numS (bs (takeB s n)) := ⟨_, rfl⟩
      have hlen := (numS_len (bs (takeB s n))).1
      rw [bs_len, takeB_size hn, ← ht] at hlen
      have HLE := Lib.hid hlen
      have Ht := Lib.hid ht
      have HT := Lib.hid hts
      clear hts ht hlen
      go_enter Try.func29, Try.ntmps29
      go_wp2_with (first | (go_at_call 41; refine (letter_any _ _).mono ?_; rintro e w' ⟨rfl, rfl⟩) | (go_at_call 44; refine (digit_any _ _).mono ?_; rintro e w' ⟨rfl, rfl⟩) | (go_at_call 37; refine (HSP.out _).mono ?_; rintro e w' ⟨rfl, rfl⟩))
      rw [extract_takeB]
      refine (number_any _ (by rw [takeB_size hn]; unfold maxLen; omega) _).mono ?_
      rw [← Ht.out]
      rintro e w1 ⟨rfl, hb⟩
      have hi := (Is.made w 42 tok0).below hb (by simp)
      have f0 := hi.free 0
      have f1 := hi.free 1
      have f2 := hi.free 2
      have f3 := hi.free 3
      have f4 := hi.free 4
      have c0 := hi.at_ 0
      have c1 := hi.at_ 1
      have c2 := hi.at_ 2
      have c3 := hi.at_ 3
      have c4 := hi.at_ 4
      simp only [tok0, List.getElem?_toArray, List.getElem?_cons_zero, List.getElem?_cons_succ] at c0 c1 c2 c3 c4
      unfold tokV
      go_wp2
      refine bodyPost_ret (v := .tuple #[.agg #[.int .i64 t.kind, .string (takeB (takeB s n) t.len), .int .i64 0, .int .i64 0, .int .u64 t.val], .int .i64 t.code]) (by simp [results, Try.results29, go_sem, c0, c1, c2, c3, c4]) rfl ⟨?_, ?_⟩
      · rw [HT.out, ← Ht.out]; simp only [tokV]; rw [takeB_takeB s HLE.out]
      · exact (((((((Below.refl _ _).alloc (Nat.le_refl _) _).trans (hb.mono (by simp))).setCell (Nat.le_refl _) _).setCell (Nat.le_refl _) _).setCell (Nat.le_refl _) _).setCell (Nat.le_refl _) _).setCell (Nat.le_refl _) _
    · have hdf : digitB s[0] = false := eq_false_of_ne_true hdg
      rw [if_neg hdg] at hts
      by_cases h39 : s[0].toNat = 39
      · rw [if_pos h39] at hts
        obtain ⟨t, ht⟩ : ∃ t, t = lifeS ((bs s).drop 1) := ⟨_, rfl⟩
        have Ht := Lib.hid ht
        have HT := Lib.hid hts
        have hq : ((s[0].toNat : Int) == 39) = true := by rw [beq_iff_eq]; omega
        clear hts ht h39
        go_enter Try.func29, Try.ntmps29
        go_wp2_with (first | (go_at_call 41; refine (letter_any _ _).mono ?_; rintro e w' ⟨rfl, rfl⟩) | (go_at_call 44; refine (digit_any _ _).mono ?_; rintro e w' ⟨rfl, rfl⟩) | (go_at_call 37; refine (HSP.out _).mono ?_; rintro e w' ⟨rfl, rfl⟩))
        refine (life_any s h0 HM.out _).mono ?_
        rw [← Ht.out]
        rintro e w1 ⟨rfl, hb⟩
        have hi := (Is.made w 42 tok0).below hb (by simp)
        have f0 := hi.free 0
        have f1 := hi.free 1
        have f2 := hi.free 2
        have f3 := hi.free 3
        have f4 := hi.free 4
        have c0 := hi.at_ 0
        have c1 := hi.at_ 1
        have c2 := hi.at_ 2
        have c3 := hi.at_ 3
        have c4 := hi.at_ 4
        simp only [tok0, List.getElem?_toArray, List.getElem?_cons_zero, List.getElem?_cons_succ] at c0 c1 c2 c3 c4
        unfold tokV
        go_wp2
        refine bodyPost_ret (v := .tuple #[.agg #[.int .i64 t.kind, .string (takeB s t.len), .int .i64 0, .int .i64 0, .int .u64 t.val], .int .i64 t.code]) (by simp [results, Try.results29, go_sem, c0, c1, c2, c3, c4]) rfl ⟨?_, ?_⟩
        · rw [HT.out, ← Ht.out]; simp only [tokV]
        · exact (((((((Below.refl _ _).alloc (Nat.le_refl _) _).trans (hb.mono (by simp))).setCell (Nat.le_refl _) _).setCell (Nat.le_refl _) _).setCell (Nat.le_refl _) _).setCell (Nat.le_refl _) _).setCell (Nat.le_refl _) _
      · rw [if_neg h39] at hts
        obtain ⟨t, ht⟩ : ∃ t, t = markS (bs s) := ⟨_, rfl⟩
        have Ht := Lib.hid ht
        have HT := Lib.hid hts
        have hq : ((s[0].toNat : Int) == 39) = false := by rw [beq_eq_false_iff_ne]; omega
        clear hts ht h39
        go_enter Try.func29, Try.ntmps29
        go_wp2_with (first | (go_at_call 41; refine (letter_any _ _).mono ?_; rintro e w' ⟨rfl, rfl⟩) | (go_at_call 44; refine (digit_any _ _).mono ?_; rintro e w' ⟨rfl, rfl⟩) | (go_at_call 37; refine (HSP.out _).mono ?_; rintro e w' ⟨rfl, rfl⟩))
        refine (mark_any s HM.out _).mono ?_
        rw [← Ht.out]
        rintro e w1 ⟨rfl, hb⟩
        have hi := (Is.made w 42 tok0).below hb (by simp)
        have f0 := hi.free 0
        have f1 := hi.free 1
        have f2 := hi.free 2
        have f3 := hi.free 3
        have f4 := hi.free 4
        have c0 := hi.at_ 0
        have c1 := hi.at_ 1
        have c2 := hi.at_ 2
        have c3 := hi.at_ 3
        have c4 := hi.at_ 4
        simp only [tok0, List.getElem?_toArray, List.getElem?_cons_zero, List.getElem?_cons_succ] at c0 c1 c2 c3 c4
        unfold tokV
        go_wp2
        refine bodyPost_ret (v := .tuple #[.agg #[.int .i64 t.kind, .string (takeB s t.len), .int .i64 0, .int .i64 0, .int .u64 t.val], .int .i64 t.code]) (by simp [results, Try.results29, go_sem, c0, c1, c2, c3, c4]) rfl ⟨?_, ?_⟩
        · rw [HT.out, ← Ht.out]; simp only [tokV]
        · exact (((((((Below.refl _ _).alloc (Nat.le_refl _) _).trans (hb.mono (by simp))).setCell (Nat.le_refl _) _).setCell (Nat.le_refl _) _).setCell (Nat.le_refl _) _).setCell (Nat.le_refl _) _).setCell (Nat.le_refl _) _
end Go.Proofs.Ytccajbcblbfgnaa
