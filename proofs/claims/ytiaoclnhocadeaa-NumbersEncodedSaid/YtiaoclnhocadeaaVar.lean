/- The contracts of what encodes and decodes numbers (package block), and of the reference's. -/
import Derived.Test.YtiaoclnhocadeaaByt
import Derived.Test.YtiaoclnhocadeaaVint
import Derived.Test.YtiaoclnhocadeaaChk
namespace Go.Proofs.Ytiaoclnhocadeaa
open Go.RowKit
set_option linter.unusedVariables false
set_option linter.unusedSimpArgs false

theorem inB_inV {n : Int} : inB n (-1000000000000) 1000000000000 = true ↔ inV n := by unfold inV; exact inB_true
set_option maxHeartbeats 400000 in
theorem isVarint_any (n : Int) (w : World) : Calls Try.prog 42 #[.int .i64 n] w fun e w' => e = .returned (.bool (inB n (-1000000000000) 1000000000000)) ∧ w = w' := by
  go_enter Try.func42, Try.ntmps42
  go_wp2_with (go_at_call 44; refine (within_any _ _ _ _).mono ?_; rintro e w' ⟨rfl, rfl⟩)
  go_ret
  exact ⟨rfl, rfl⟩

set_option maxHeartbeats 400000 in
theorem zigzag_any (n : Int) (w : World) (h : inV n) : Calls Try.prog 60 #[.int .i64 n] w fun e w' => e = .returned (.int .i64 ((zig n : Nat) : Int)) ∧ w = w' := by
  unfold inV at h
  by_cases hn : n < 0
  · have hz := zig_neg hn
    have H := Lib.hid hz
    clear hz
    go_enter Try.func60, Try.ntmps60
    go_wp2_with fail
    go_ret
    exact ⟨ret_int (by rw [H.out]), rfl⟩
  · have hz := zig_nonneg hn
    have H := Lib.hid hz
    clear hz
    go_enter Try.func60, Try.ntmps60
    go_wp2_with fail
    go_ret
    exact ⟨ret_int (by rw [H.out]), rfl⟩

theorem unzig_odd {z : Nat} (h : (z : Int) % 2 = 1) : unzig z = -((z : Int) / 2) - 1 := by unfold unzig; rw [if_pos (by omega)]; omega
theorem unzig_even {z : Nat} (h : ¬ (z : Int) % 2 = 1) : unzig z = (z : Int) / 2 := by unfold unzig; rw [if_neg (by omega)]; omega
set_option maxHeartbeats 400000 in
theorem unzigzag_any (z : Nat) (w : World) (h : z < 1152921504606846976) : Calls Try.prog 45 #[.int .i64 (z : Int)] w fun e w' => e = .returned (.int .i64 (unzig z)) ∧ w = w' := by
  by_cases hn : (z : Int) % 2 = 1
  · have hz := unzig_odd hn
    have H := Lib.hid hz
    have hn' : ((z : Int) % 2 == 1) = true := by simpa using hn
    clear hz hn
    go_enter Try.func45, Try.ntmps45
    go_wp2_with fail
    go_ret
    exact ⟨ret_int (by rw [H.out]), rfl⟩
  · have hz := unzig_even hn
    have H := Lib.hid hz
    have hn' : ((z : Int) % 2 == 1) = false := by simpa using hn
    clear hz hn
    go_enter Try.func45, Try.ntmps45
    go_wp2_with fail
    go_ret
    exact ⟨ret_int (by rw [H.out]), rfl⟩

set_option maxRecDepth 100000 in
set_option maxHeartbeats 2000000 in
theorem appendVarint_any (n : Int) (v : Value) (l : List Int) (B : Nat) (w : World) (h : inV n) (hown : OwnB w B v l) (hl : l.length ≤ 90000000) (hB : B ≤ w.heap.size) :
    Calls Try.prog 43 #[v, .int .i64 n] w fun e w' => ∃ v', e = .returned v' ∧ OwnB w' B v' (l ++ vb (zig n)) ∧ Below B w w' := by
  have hz := zig_lt h
  have hv6 := vb_zig_len h
  have hzz := fun w => zigzag_any n w h
  generalize zig n = z0 at *
  have HV6 := Lib.hid hv6
  clear hv6
  go_enter Try.func43, Try.ntmps43
  go_wp2_with (go_at_call 60; refine (hzz _).mono ?_; rintro e w' ⟨rfl, rfl⟩)
  clear hzz
  go_loopw [0, 5] (fun b z wr => ∃ (zn : Nat) (xs : List Int), zn ≤ 2000000000000 ∧ z = .int .i64 (zn : Int) ∧ OwnB wr B b xs ∧ xs ++ vb zn = l ++ vb z0 ∧ Below B w wr) (fun _ z _ => (intOf z).toNat)
  case atStart => exact ⟨z0, l, hz, rfl, hown, rfl, Below.refl _ _⟩
  case round =>
    obtain ⟨zn, xs, hzn, rfl, ho, heq, hb⟩ := hrel
    have hlx : xs.length ≤ 95000000 := by
      have := congrArg List.length heq
      simp at this
      have := HV6.out
      omega
    have HEQ := Lib.hid heq
    have hsz := hb.size
    clear heq
    by_cases hlt : zn < 128
    · have hlt' : decide ((128 : Int) ≤ (zn : Int)) = false := by simp; omega
      have hvs := vb_small hlt
      have HVS := Lib.hid hvs
      clear hvs
      have hwr : IntKind.u8.wrap (zn : Int) = (zn : Int) := by simp [IntKind.wrap, IntKind.bits, IntKind.signed]; omega
      go_wp2_with (at_builtin; go_loud (refine wpList_append_byte rfl (.tmp 19) (.tmp 22) rfl B u0 xs rfl (by exact ho.alloc _) wr.heap.size rfl (zn : Int) (by exact Blk.new _ _ _) (by omega) (by simp; omega) ?_); intro v1 w1 hown1 hb1)
      go_ret
      exact ⟨_, rfl, by rw [← HEQ.out, HVS.out]; exact hown1, (hb.alloc (Nat.le_trans hB hsz) _).trans hb1⟩
    · have hlt' : decide ((128 : Int) ≤ (zn : Int)) = true := by simp; omega
      have hvs := vb_big hlt
      have HVS := Lib.hid hvs
      have e1 : ((zn % 128 + 128 : Nat) : Int) = (zn : Int) % 128 + 128 := by omega
      have hwr : IntKind.u8.wrap ((zn : Int) % 128 + 128) = (zn : Int) % 128 + 128 := by simp [IntKind.wrap, IntKind.bits, IntKind.signed]; omega
      have HWR := Lib.hid hwr
      have HE1 := Lib.hid e1
      clear hvs e1
      go_wp2_with (at_builtin; go_loud (refine wpList_append_byte rfl (.tmp 10) (.tmp 15) rfl B u0 xs rfl (by exact ho.alloc _) wr.heap.size rfl ((zn : Int) % 128 + 128) (by exact Blk.new _ _ _) (by omega) (by simp; omega) ?_); intro v1 w1 hown1 hb1)
      have hbb := (hb.alloc (Nat.le_trans hB hsz) (.cells #[.int .u8 ((zn : Int) % 128 + 128)] 5)).trans hb1
      go_roundw
      case rel => exact ⟨zn / 128, xs ++ [(zn : Int) % 128 + 128], by omega, by go_num, hown1, by rw [← HEQ.out, HVS.out, HE1.out]; simp, hbb⟩
      case measure => simp [intOf]; omega

/-- What Varint returns. -/
def varR (n : Int) : List Int × Int := if inB n (-1000000000000) 1000000000000 = true then (vb (zig n), 0) else ([], 1)
theorem varR_bytes (n : Int) : IsB (varR n).1 := by
  unfold varR; split
  · exact vb_bytes _
  · exact IsB.nil
theorem varR_len (n : Int) : (varR n).1.length ≤ 6 := by
  unfold varR; split
  · exact vb_zig_len (inB_inV.1 (by assumption))
  · simp

set_option maxRecDepth 100000 in
set_option maxHeartbeats 2000000 in
theorem varint_any (n : Int) (w : World) :
    Calls Try.prog 20 #[.int .i64 n] w fun e w' => ∃ v', e = .returned (.tuple #[v', .int .i64 (varR n).2]) ∧ OwnB w' w.heap.size v' (varR n).1 ∧ Below w.heap.size w w' := by
  by_cases h : inB n (-1000000000000) 1000000000000 = true
  · have hr : varR n = (vb (zig n), 0) := by unfold varR; rw [if_pos h]
    have hi := inB_inV.1 h
    rw [hr]
    have hv := fun w => isVarint_any n w
    rw [h] at hv
    have H := Lib.hid hi
    clear hr h hi
    go_enter Try.func20, Try.ntmps20
    go_wp2_with (first
      | (go_at_call 42; refine (hv _).mono ?_; rintro e w' ⟨rfl, rfl⟩)
      | (go_at_call 43; refine (appendVarint_any n _ [] w.heap.size w H.out (OwnB.nil _ _) (by simp) (Nat.le_refl _)).mono ?_; rintro e w1 ⟨v1, rfl, hown1, hb1⟩))
    go_ret2
    exact ⟨_, rfl, by simpa using hown1, hb1⟩
  · have h' : inB n (-1000000000000) 1000000000000 = false := by simpa using h
    have hr : varR n = ([], 1) := by unfold varR; rw [if_neg h]
    rw [hr]
    have hv := fun w => isVarint_any n w
    rw [h'] at hv
    clear hr h h'
    go_enter Try.func20, Try.ntmps20
    go_wp2_with (go_at_call 42; refine (hv _).mono ?_; rintro e w' ⟨rfl, rfl⟩)
    go_ret2
    exact ⟨_, rfl, OwnB.nil _ _, Below.refl _ _⟩

set_option maxRecDepth 100000 in
set_option maxHeartbeats 2000000 in
theorem varintOf_any (n : Int) (w : World) :
    Calls Try.prog 22 #[.int .i64 n] w fun e w' => ∃ v', e = .returned (.tuple #[v', .int .i64 (varR n).2]) ∧ OwnB w' w.heap.size v' (varR n).1 ∧ Below w.heap.size w w' := by
  by_cases h : inB n (-1000000000000) 1000000000000 = true
  · have hr : varR n = (vb (zig n), 0) := by unfold varR; rw [if_pos h]
    have hi := inB_inV.1 h
    have hz := zig_lt hi
    have hv6 := vb_zig_len hi
    rw [hr]
    have hv := fun w => in_any n (-1000000000000) 1000000000000 w
    rw [h] at hv
    have hneg : n < 0 → -2 * n - 1 = ((zig n : Nat) : Int) := fun h => (zig_neg h).symm
    have hpos : ¬ n < 0 → 2 * n = ((zig n : Nat) : Int) := fun h => (zig_nonneg h).symm
    unfold inV at hi
    generalize zig n = z0 at *
    have HV6 := Lib.hid hv6
    have HNEG := Lib.hid hneg
    have HPOS := Lib.hid hpos
    clear hr h hv6 hneg hpos
    by_cases hn : n < 0
    all_goals
      go_enter Try.func22, Try.ntmps22
      go_wp2_with (go_at_call 46; refine (hv _).mono ?_; rintro e w' ⟨rfl, rfl⟩)
      first | rw [HNEG.out hn] | rw [HPOS.out hn]
      clear hv
      go_loopw [5, 4] (fun b z wr => ∃ (zn : Nat) (xs : List Int), zn ≤ 2000000000000 ∧ z = .int .i64 (zn : Int) ∧ OwnB wr w.heap.size b xs ∧ xs ++ vb zn = vb z0 ∧ Below w.heap.size w wr) (fun _ z _ => (intOf z).toNat)
      case atStart => exact ⟨z0, [], hz, rfl, OwnB.nil _ _, rfl, Below.refl _ _⟩
      case round =>
        obtain ⟨zn, xs, hzn, rfl, ho, heq, hb⟩ := hrel
        have hlx : xs.length ≤ 95000000 := by
          have := congrArg List.length heq
          simp at this
          have := HV6.out
          omega
        have HEQ := Lib.hid heq
        have hsz := hb.size
        clear heq
        by_cases hlt : zn < 128
        · have hlt' : ((zn : Int) / 128 == 0) = true := by simp; omega
          have hmod : (zn : Int) % 128 = (zn : Int) := by omega
          have hvs := vb_small hlt
          have HVS := Lib.hid hvs
          clear hvs
          have hwr : IntKind.u8.wrap ((zn : Int) % 128) = (zn : Int) := by simp [IntKind.wrap, IntKind.bits, IntKind.signed]; omega
          clear hmod
          go_wp2_with (at_builtin; go_loud (refine wpList_append_byte rfl (.tmp 23) (.tmp 26) rfl w.heap.size u5 xs rfl (by exact ho.alloc _) wr.heap.size rfl (zn : Int) (by exact Blk.new _ _ _) (by omega) (by simp; omega) ?_); intro v1 w1 hown1 hb1)
          go_ret2
          exact ⟨_, rfl, by rw [← HEQ.out, HVS.out]; exact hown1, (hb.alloc hsz _).trans hb1⟩
        · have hlt' : ((zn : Int) / 128 == 0) = false := by simp; omega
          have hvs := vb_big hlt
          have HVS := Lib.hid hvs
          have e1 : ((zn % 128 + 128 : Nat) : Int) = (zn : Int) % 128 + 128 := by omega
          have hwr : IntKind.u8.wrap ((zn : Int) % 128 + 128) = (zn : Int) % 128 + 128 := by simp [IntKind.wrap, IntKind.bits, IntKind.signed]; omega
          have HE1 := Lib.hid e1
          clear hvs e1
          go_wp2_with (at_builtin; go_loud (refine wpList_append_byte rfl (.tmp 28) (.tmp 32) rfl w.heap.size u5 xs rfl (by exact ho.alloc _) wr.heap.size rfl ((zn : Int) % 128 + 128) (by exact Blk.new _ _ _) (by omega) (by simp; omega) ?_); intro v1 w1 hown1 hb1)
          have hbb := (hb.alloc hsz (.cells #[.int .u8 ((zn : Int) % 128 + 128)] 5)).trans hb1
          go_roundw
          case rel => exact ⟨zn / 128, xs ++ [(zn : Int) % 128 + 128], by omega, by go_num, hown1, by rw [← HEQ.out, HVS.out, HE1.out]; simp, hbb⟩
          case measure => simp [intOf]; omega
  · have h' : inB n (-1000000000000) 1000000000000 = false := by simpa using h
    have hr : varR n = ([], 1) := by unfold varR; rw [if_neg h]
    rw [hr]
    have hv := fun w => in_any n (-1000000000000) 1000000000000 w
    rw [h'] at hv
    clear hr h h'
    go_enter Try.func22, Try.ntmps22
    go_wp2_with (go_at_call 46; refine (hv _).mono ?_; rintro e w' ⟨rfl, rfl⟩)
    go_ret2
    exact ⟨_, rfl, OwnB.nil _ _, Below.refl _ _⟩

set_option maxRecDepth 100000 in
set_option maxHeartbeats 2000000 in
theorem checksum_any (v : Value) (l : List Int) (w : World) (hR : RdB w v l) (hB : IsB l) :
    Calls Try.prog 25 #[v] w fun e w' => e = .returned (.int .i64 (csum l)) ∧ w = w' := by
  obtain ⟨pa, ca, rfl, hc1, hc2⟩ := hR.lenv
  unfold maxLen at hc2
  have HR := Lib.hid hR
  have HB := Lib.hid hB
  clear hR hB
  go_enter Try.func25, Try.ntmps25
  go_wp2_with fail
  go_loop [3, 8] (fun s i => ∃ j : Nat, j ≤ l.length ∧ i = .int .i64 (j : Int) ∧ s = .int .i64 (csum (l.take j))) (fun _ i => l.length - (intOf i).toNat)
  case atStart => exact ⟨0, by omega, rfl, rfl⟩
  case round =>
    obtain ⟨j, hj, rfl, rfl⟩ := hrel
    by_cases hlt : j < l.length
    · obtain ⟨b, off, c, hv, hc3, hc4, hblt, hcell⟩ := HR.out.cells (by omega)
      cases hv
      have c0 := hcell j hlt
      have hr := csum_range (l.take j)
      have hx := HB.out.getD j
      have htk : l.take (j + 1) = l.take j ++ [l.getD j 0] := by rw [List.take_succ_eq_append_getElem hlt, List.getD_eq_getElem?_getD, List.getElem?_eq_getElem hlt]; rfl
      have hs : csum (l.take (j + 1)) = (csum (l.take j) * 31 + l.getD j 0 + 1) % 65521 := by rw [htk, csum_snoc]
      generalize csum (l.take j) = s1 at *
      generalize l.getD j 0 = x at *
      have HS := Lib.hid hs
      have hwr : IntKind.i64.wrap x = x := IntWalk.i64_in _ (by omega)
      clear hs htk hcell
      go_wp2_with fail
      go_round
      case rel => exact ⟨j + 1, by omega, by go_num, by rw [HS.out]⟩
      case measure => simp [intOf]; omega
    · obtain rfl : j = l.length := by omega
      rw [List.take_of_length_le (Nat.le_refl _)] at *
      go_wp2_with fail
      go_ret
      exact ⟨rfl, rfl⟩

set_option maxRecDepth 100000 in
set_option maxHeartbeats 2000000 in
theorem checksumOf_any (v : Value) (l : List Int) (w : World) (hR : RdB w v l) (hB : IsB l) :
    Calls Try.prog 26 #[v] w fun e w' => e = .returned (.int .i64 (csum l)) ∧ w = w' := by
  obtain ⟨pa, ca, rfl, hc1, hc2⟩ := hR.lenv
  unfold maxLen at hc2
  have HR := Lib.hid hR
  have HB := Lib.hid hB
  clear hR hB
  go_enter Try.func26, Try.ntmps26
  go_wp2_with fail
  go_loop [3, 8] (fun s i => ∃ j : Nat, j ≤ l.length ∧ i = .int .i64 (j : Int) ∧ s = .int .i64 (csum (l.take j))) (fun _ i => l.length - (intOf i).toNat)
  case atStart => exact ⟨0, by omega, rfl, rfl⟩
  case round =>
    obtain ⟨j, hj, rfl, rfl⟩ := hrel
    by_cases hlt : j < l.length
    · obtain ⟨b, off, c, hv, hc3, hc4, hblt, hcell⟩ := HR.out.cells (by omega)
      cases hv
      have c0 := hcell j hlt
      have hr := csum_range (l.take j)
      have hx := HB.out.getD j
      have htk : l.take (j + 1) = l.take j ++ [l.getD j 0] := by rw [List.take_succ_eq_append_getElem hlt, List.getD_eq_getElem?_getD, List.getElem?_eq_getElem hlt]; rfl
      have hs : csum (l.take (j + 1)) = (csum (l.take j) * 31 + l.getD j 0 + 1) % 65521 := by rw [htk, csum_snoc]
      generalize csum (l.take j) = s1 at *
      generalize l.getD j 0 = x at *
      have HS := Lib.hid hs
      have hwr : IntKind.i64.wrap x = x := IntWalk.i64_in _ (by omega)
      clear hs htk hcell
      go_wp2_with fail
      go_round
      case rel => exact ⟨j + 1, by omega, by go_num, by rw [HS.out]⟩
      case measure => simp [intOf]; omega
    · obtain rfl : j = l.length := by omega
      rw [List.take_of_length_le (Nat.le_refl _)] at *
      go_wp2_with fail
      go_ret
      exact ⟨rfl, rfl⟩

end Go.Proofs.Ytiaoclnhocadeaa
