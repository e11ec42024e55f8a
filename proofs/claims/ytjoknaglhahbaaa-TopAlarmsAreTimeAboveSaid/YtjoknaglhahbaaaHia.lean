/- checkAlarm (package alarm) of an alarm 'a' of tag 't' that watches for high values. -/
import Derived.Test.YtjoknaglhahbaaaActv
namespace Go.Proofs.Ytjoknaglhahbaaa
open Go.RowKit
set_option linter.unusedVariables false
set_option linter.unusedSimpArgs false

theorem small_one (c : Int) (w : World) (hc : c = 97 ∨ c = 116) : Calls Try.prog 60 #[.int .u8 c] w fun e w' => e = .returned (.bool true) ∧ w = w' := by
  rcases hc with rfl | rfl
  · go_enter Try.func60, Try.ntmps60
    go_wp2_with fail
    go_ret
    exact ⟨rfl, rfl⟩
  · go_enter Try.func60, Try.ntmps60
    go_wp2_with fail
    go_ret
    exact ⟨rfl, rfl⟩
set_option maxRecDepth 100000 in
set_option maxHeartbeats 2000000 in
theorem key_a (w : World) : Calls Try.prog 52 #[.string { data := #[97] }] w fun e w' => e = .returned (.bool true) ∧ w = w' := by
  go_enter Try.func52, Try.ntmps52
  go_wp2_with (go_at_call 60; refine (small_one _ _ (by first | exact .inl rfl | exact .inr rfl)).mono ?_; rintro e w2 ⟨rfl, rfl⟩)
  refine wp_loop_rounds 2 ?_
  rw [rounds_succ]
  go_wp2_with (go_at_call 60; refine (small_one _ _ (by first | exact .inl rfl | exact .inr rfl)).mono ?_; rintro e w2 ⟨rfl, rfl⟩)
  rw [rounds_succ]
  go_wp2_with fail
  go_ret
  exact ⟨rfl, rfl⟩
set_option maxRecDepth 100000 in
set_option maxHeartbeats 2000000 in
theorem key_t (w : World) : Calls Try.prog 52 #[.string { data := #[116] }] w fun e w' => e = .returned (.bool true) ∧ w = w' := by
  go_enter Try.func52, Try.ntmps52
  go_wp2_with (go_at_call 60; refine (small_one _ _ (by first | exact .inl rfl | exact .inr rfl)).mono ?_; rintro e w2 ⟨rfl, rfl⟩)
  refine wp_loop_rounds 2 ?_
  rw [rounds_succ]
  go_wp2_with (go_at_call 60; refine (small_one _ _ (by first | exact .inl rfl | exact .inr rfl)).mono ?_; rintro e w2 ⟨rfl, rfl⟩)
  rw [rounds_succ]
  go_wp2_with fail
  go_ret
  exact ⟨rfl, rfl⟩

/-- The alarm 'a' of tag 't' for values above a limit, with a deadband, without delays. -/
def hiA (L D : Int) (par : ByteArray) : Alm := ⟨{ data := #[97] }, { data := #[116] }, 1, L, D, 0, 0, 1, false, par⟩
theorem hiA_in {L D : Int} (par : ByteArray) (hL : -1000000 ≤ L ∧ L ≤ 1000000) (hD : 0 ≤ D ∧ D ≤ 2000000) : AlmIn (hiA L D par) := ⟨hL, hD, ⟨Int.le_refl _, (by show (0 : Int) ≤ 86400000; omega)⟩, ⟨Int.le_refl _, (by show (0 : Int) ≤ 86400000; omega)⟩⟩
theorem dead_any (n : Int) (w : World) : Calls Try.prog 53 #[.int .i64 n] w fun e w' => e = .returned (.bool (inB n 0 2000000)) ∧ w = w' := by
  go_enter Try.func53, Try.ntmps53
  go_wp2_with (go_at_call 19; refine (within_any _ _ _ _).mono ?_; rintro e w' ⟨rfl, rfl⟩)
  go_ret
  exact ⟨rfl, rfl⟩
theorem delay_any (n : Int) (w : World) : Calls Try.prog 54 #[.int .i64 n] w fun e w' => e = .returned (.bool (inB n 0 86400000)) ∧ w = w' := by
  go_enter Try.func54, Try.ntmps54
  go_wp2_with (go_at_call 19; refine (within_any _ _ _ _).mono ?_; rintro e w' ⟨rfl, rfl⟩)
  go_ret
  exact ⟨rfl, rfl⟩
set_option maxRecDepth 100000 in
set_option maxHeartbeats 2000000 in
theorem checkAlarm_hi (L D : Int) (par : ByteArray) (w : World) (hL : -1000000 ≤ L ∧ L ≤ 1000000) (hD : 0 ≤ D ∧ D ≤ 2000000) :
    Calls Try.prog 41 #[.agg (almCells (hiA L D par))] w fun e w' => e = .returned (.int .i64 0) ∧ Below w.heap.size w w' := by
  simp only [almCells, hiA]
  have hbe := (Below.refl w.heap.size w).alloc (Nat.le_refl _) (.cells #[.string { data := #[97] }, .string { data := #[116] }, .int .i64 1, .int .i64 L, .int .i64 D, .int .i64 0, .int .i64 0, .int .i64 1, .bool false, .string par] 37)
  have ba := Blk.new w 37 #[.string { data := #[97] }, .string { data := #[116] }, .int .i64 1, .int .i64 L, .int .i64 D, .int .i64 0, .int .i64 0, .int .i64 1, .bool false, .string par]
  have hV := isValue_any L
  rw [inB_true.2 hL] at hV
  have hDD := dead_any D
  rw [inB_true.2 hD] at hDD
  have HV := Lib.hid hV
  have HD := Lib.hid hDD
  have HZ := Lib.hid (delay_any 0)
  have H1 := Lib.hid (within_any 1 1 3)
  have H2 := Lib.hid (within_any 1 1 1000)
  clear hV hDD
  go_enter Try.func41, Try.ntmps41
  go_upto_region 1 with fail
  generalize w.alloc (.cells #[.string { data := #[97] }, .string { data := #[116] }, .int .i64 1, .int .i64 L, .int .i64 D, .int .i64 0, .int .i64 0, .int .i64 1, .bool false, .string par] 37) = w1 at *
  have a0 := ba.cell 0
  have a1 := ba.cell 1
  have a2 := ba.cell 2
  have a3 := ba.cell 3
  have a4 := ba.cell 4
  have a5 := ba.cell 5
  have a6 := ba.cell 6
  have a7 := ba.cell 7
  go_wp2_with (first
    | (go_at_call 52; (with_reducible refine (key_a _).mono ?_); rintro e w2 ⟨rfl, rfl⟩)
    | (go_at_call 52; (with_reducible refine (key_t _).mono ?_); rintro e w2 ⟨rfl, rfl⟩)
    | (go_at_call 19; (with_reducible refine (H1.out _).mono ?_); rintro e w2 ⟨rfl, rfl⟩)
    | (go_at_call 19; (with_reducible refine (H2.out _).mono ?_); rintro e w2 ⟨rfl, rfl⟩)
    | (go_at_call 30; (with_reducible refine (HV.out _).mono ?_); rintro e w2 ⟨rfl, rfl⟩)
    | (go_at_call 53; (with_reducible refine (HD.out _).mono ?_); rintro e w2 ⟨rfl, rfl⟩)
    | (go_at_call 54; (with_reducible refine (HZ.out _).mono ?_); rintro e w2 ⟨rfl, rfl⟩))
  go_ret
  exact ⟨rfl, hbe⟩
theorem active_hi (L D : Int) (par : ByteArray) (v : Value) (l : List Smp) (u : Int) (w : World) (hR : RdS w 45 v l) (hL : -1000000 ≤ L ∧ L ≤ 1000000) (hD : 0 ≤ D ∧ D ≤ 2000000) :
    Calls Try.prog 8 #[.agg #[.string { data := #[97] }, .string { data := #[116] }, .int .i64 1, .int .i64 L, .int .i64 D, .int .i64 0, .int .i64 0, .int .i64 1, .bool false, .string par], v, .int .i64 u] w fun e w' => ∃ vr, e = .returned (.tuple #[vr, .int .i64 (actE l u)]) ∧ RdWdw w' vr (actR (hiA L D par) l u) ∧ Below w.heap.size w w' :=
  active_of (hiA L D par) v l u w hR (hiA_in par hL hD) (fun W => checkAlarm_hi L D par W hL hD)
end Go.Proofs.Ytjoknaglhahbaaa
