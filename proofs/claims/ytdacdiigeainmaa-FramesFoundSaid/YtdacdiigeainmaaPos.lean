/- The contracts of sort.Search and Position (package basic), at a series that rises. -/
import Derived.Test.YtdacdiigeainmaaSerr
import Derived.Deep.QuietTactic
import Derived.BigQuiet
import Derived.Laws.EntriesVeiled
namespace Go.Proofs.Ytdacdiigeainmaa
open Go.RowKit
set_option linter.unusedVariables false
set_option linter.unusedSimpArgs false

set_option maxRecDepth 100000 in
set_option maxHeartbeats 1000000 in
theorem position1_any (i bl ba : Nat) (v : Value) (l : List Smp) (at_ : Int) (w : World) (hR : RdS w 55 v l) (hL : Blk w bl 29 #[v]) (hA : Blk w ba 3 #[.int .i64 at_]) (hi : i < l.length) :
    Calls Try.prog 50 #[.int .i64 (i : Int), .pointer (some ⟨bl, 0, none⟩), .pointer (some ⟨ba, 0, none⟩)] w fun e w' => e = .returned (.bool (decide (at_ ≤ (atS l i).t))) ∧ ∃ m, w' = w.drewN m := by
  obtain ⟨b, off, c, rfl, hc1, hc2, hblt, hcell⟩ := RdS.at_ hR (by omega)
  obtain ⟨c0, _, _⟩ := hcell i hi
  have d0 : w.cell? ⟨bl, 0, none⟩ = some (.slice (some ⟨b, off, none⟩) l.length c) := hL.cell 0
  have d1 : w.cell? ⟨ba, 0, none⟩ = some (.int .i64 at_) := hA.cell 0
  generalize atS l i = x at *
  unfold maxLen at hc2
  have i1 : (0 : Int) ≤ (i : Int) := by omega
  have i2 : (i : Int) < (l.length : Int) := by omega
  clear hcell hR hL hA
  go_enter Try.func50, Try.ntmps50
  go_wp2_with fail
  first
    | (go_ret; exact ⟨ret_bool (by simp), 0, rfl⟩)
    | (go_quiet (fail)
       go_wp2_with fail
       go_ret
       exact ⟨ret_bool (by simp), _, rfl⟩)
theorem enter_position1 (args : Array Value) (w : World) : (callFunc 50 args).run Try.prog w = .ok (.enter 50 args) w := by kernel_rfl

set_option maxRecDepth 100000 in
set_option maxHeartbeats 2000000 in
theorem search_any (bl ba : Nat) (v : Value) (l : List Smp) (at_ : Int) (w : World) (hR : RdS w 55 v l) (hL : Blk w bl 29 #[v]) (hA : Blk w ba 3 #[.int .i64 at_]) (hS : Rise none l) (hlong : l.length ≤ 5000) :
    Calls Try.prog 49 #[.int .i64 (l.length : Int), .func (.func 50) #[] #[.pointer (some ⟨bl, 0, none⟩), .pointer (some ⟨ba, 0, none⟩)]] w fun e w' => e = .returned (.int .i64 (posF l at_ : Int)) ∧ ∃ m, w' = w.drewN m := by
  have hcf := enter_position1
  have hP := posF_le l at_
  have hiff := posF_iff l at_ none hS
  have HIFF := Lib.hid hiff
  have HR := Lib.hid hR
  have HL := Lib.hid hL
  have HA := Lib.hid hA
  clear hR hL hA hS hiff
  go_enter Try.func49, Try.ntmps49
  go_wp2_with fail
  go_loopw [5, 6] (fun si sj wr => ∃ (lo hi m : Nat), si = .int .i64 (lo : Int) ∧ sj = .int .i64 (hi : Int) ∧ lo ≤ posF l at_ ∧ posF l at_ ≤ hi ∧ hi ≤ l.length ∧ wr = w.drewN m) (fun si sj _ => (intOf sj - intOf si).toNat)
  case atStart => exact ⟨0, l.length, 0, rfl, rfl, by omega, hP, by omega, rfl⟩
  case round =>
    obtain ⟨lo, hi, m, rfl, rfl, h1, h2, h3, rfl⟩ := hrel
    by_cases hlt : lo < hi
    · have hq := position1_any ((lo + hi) / 2) bl ba v l at_ (w.drewN m) (Rd.drewN HR.out m) HL.out HA.out (by omega)
      have hif := HIFF.out ((lo + hi) / 2) (by omega)
      rw [show (((lo + hi) / 2 : Nat) : Int) = ((lo : Int) + (hi : Int)) / 2 by omega] at hq
      have HQ := Lib.hid hq
      have HIF := Lib.hid hif
      clear hq hif
      go_wp2_with fail
      refine HQ.out.mono ?_
      rintro e w2 ⟨rfl, m2, rfl⟩
      by_cases hc : at_ ≤ (atS l ((lo + hi) / 2)).t
      · have hd : decide (at_ ≤ (atS l ((lo + hi) / 2)).t) = true := by simpa using hc
        have hle := HIF.out.1 hc
        rw [hd]
        clear hd hc
        go_wp2_with fail
        go_roundw
        case rel => exact ⟨lo, (lo + hi) / 2, _, rfl, by go_num, h1, hle, by omega, rfl⟩
        case measure => simp [intOf]; omega
      · have hd : decide (at_ ≤ (atS l ((lo + hi) / 2)).t) = false := by simpa using hc
        have hgt : (lo + hi) / 2 < posF l at_ := Nat.lt_of_not_le fun h => hc (HIF.out.2 h)
        rw [hd]
        clear hd hc
        go_wp2_with fail
        go_roundw
        case rel => exact ⟨(lo + hi) / 2 + 1, hi, _, by go_num, rfl, by omega, h2, h3, rfl⟩
        case measure => simp [intOf]; omega
    · obtain rfl : lo = hi := by omega
      go_wp2_with fail
      go_ret
      exact ⟨ret_int (by omega), m, rfl⟩

set_option maxRecDepth 100000 in
set_option maxHeartbeats 1000000 in
theorem position_any (v : Value) (l : List Smp) (at_ : Int) (w : World) (hR : RdS w 55 v l) (hS : Rise none l) (hlong : l.length ≤ 5000) :
    Calls Try.prog 43 #[v, .int .i64 at_] w fun e w' => e = .returned (.int .i64 (posF l at_ : Int)) ∧ Below w.heap.size w w' := by
  obtain ⟨pa, ca, rfl⟩ : ∃ pa ca, v = .slice pa l.length ca := by obtain ⟨_, pa, ca, rfl, _⟩ := hR; exact ⟨pa, ca, rfl⟩
  have hmf : ∀ (fn : Fn) (first cap : Array Value) (w : World), (Instr.makeFunc fn first cap).run Try.prog w = .ok (.func fn first cap) w := fun _ _ _ _ => rfl
  have h1 := Blk.new w 29 #[.slice pa l.length ca]
  have h2 := h1.alloc (.cells #[.int .i64 at_] 3)
  have h3 := Blk.new1 w (.cells #[.slice pa l.length ca] 29) 3 #[.int .i64 at_]
  have h4 : RdS _ 55 (.slice pa l.length ca) l := Rd.alloc (Rd.alloc hR (.cells #[.slice pa l.length ca] 29)) (.cells #[.int .i64 at_] 3)
  have hq := search_any _ _ _ l at_ _ h4 h2 h3 hS hlong
  have HQ := Lib.hid hq
  clear h1 h2 h3 h4 hq hR hS
  go_enter Try.func43, Try.ntmps43
  go_wp2_with fail
  refine HQ.out.mono ?_
  rintro e w2 ⟨rfl, m2, rfl⟩
  go_wp2_with fail
  go_ret
  exact ⟨rfl, bdrewN (((Below.refl _ w).alloc (Nat.le_refl _) _).alloc (by simp) _) _⟩
end Go.Proofs.Ytdacdiigeainmaa
