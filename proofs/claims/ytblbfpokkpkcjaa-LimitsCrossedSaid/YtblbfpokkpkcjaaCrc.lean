/- The contracts of the closure of the reference's CrossingsOf, and of slices.ContainsFunc over it. -/
import Derived.Test.YtblbfpokkpkcjaaCrm
import Derived.Test.YtblbfpokkpkcjaaSerr
import Derived.Test.YtblbfpokkpkcjaaDist
namespace Go.Proofs.Ytblbfpokkpkcjaa
open Go.RowKit
set_option linter.unusedVariables false
set_option linter.unusedSimpArgs false

theorem crossingsOf1_any (x : Smp) (L : Int) (b : Nat) (w : World) (hB : Blk w b 3 #[.int .i64 L]) :
    Calls Try.prog 140 #[.agg #[.int .i64 x.t, .int .i64 x.v, .int .i64 x.q], .pointer (some ⟨b, 0, none⟩)] w fun e w' => e = .returned (.bool (!eqL L x)) ∧ Below w.heap.size w w' := by
  have c0 : w.cell? ⟨b, 0, none⟩ = some (.int .i64 L) := hB.cell 0
  have hbl := hB.lt
  have hE : eqL L x = (decide (x.v = L) && decide (x.q ≠ 2)) := rfl
  generalize eqL L x = E at *
  have HE := Lib.hid hE
  clear hB hE
  by_cases hv : x.v = L
  · have hv' : (x.v != L) = false := by simpa using hv
    by_cases hq : x.q = 2
    · have hq' : (x.q == 2) = true := by simpa using hq
      have HE2 := Lib.hid (show E = false by rw [HE.out, hq]; simp)
      clear hv hq
      go_enter Try.func140, Try.ntmps140
      go_wp2_with fail
      go_ret
      exact ⟨ret_bool (by rw [HE2.out]; rfl), (Below.refl _ w).alloc (Nat.le_refl _) _⟩
    · have hq' : (x.q == 2) = false := by simpa using hq
      have HE2 := Lib.hid (show E = true by rw [HE.out, hv]; simpa using hq)
      clear hv hq
      go_enter Try.func140, Try.ntmps140
      go_wp2_with fail
      go_ret
      exact ⟨ret_bool (by rw [HE2.out]; rfl), (Below.refl _ w).alloc (Nat.le_refl _) _⟩
  · have hv' : (x.v != L) = true := by simpa using hv
    have HE2 := Lib.hid (show E = false by rw [HE.out]; simp [hv])
    clear hv
    go_enter Try.func140, Try.ntmps140
    go_wp2_with fail
    go_ret
    exact ⟨ret_bool (by rw [HE2.out]; rfl), (Below.refl _ w).alloc (Nat.le_refl _) _⟩
theorem enter_crossingsOf1 (args : Array Value) (w : World) : (callFunc 140 args).run Try.prog w = .ok (.enter 140 args) w := by kernel_rfl

/-- What IndexFunc returns. -/
def IdxS (L : Int) (P : List Smp) (w : World) (e : Ending) (w' : World) : Prop := ∃ k : Int, e = .returned (.int .i64 k) ∧ (0 ≤ k ↔ P.all (eqL L) = false) ∧ (-1 ≤ k ∧ k ≤ 1000000) ∧ Below w.heap.size w w'
set_option maxRecDepth 100000 in
set_option maxHeartbeats 2000000 in
theorem indexFuncS_any (v : Value) (P : List Smp) (L : Int) (bb : Nat) (w : World) (hN : RdS w 71 v P) (hlong : P.length ≤ 5000) (hB : Blk w bb 3 #[.int .i64 L]) :
    Calls Try.prog 181 #[v, .func (.func 140) #[] #[.pointer (some ⟨bb, 0, none⟩)]] w (IdxS L P w) := by
  have hcf := enter_crossingsOf1
  obtain ⟨ps, cs, rfl⟩ := hN.lenv
  have HB := Lib.hid hB
  have HN := Lib.hid hN
  clear hN hB
  go_enter Try.func181, Try.ntmps181
  go_wp2_with fail
  go_loopw [8] (fun si wr => ∃ m : Nat, m ≤ P.length ∧ si = .int .i64 (m : Int) ∧ (P.take m).all (eqL L) = true ∧ Below w.heap.size w wr) (fun i _ => P.length - (intOf i).toNat)
  case atStart => exact ⟨0, by omega, rfl, rfl, Below.refl _ _⟩
  case round =>
    obtain ⟨m, hm, rfl, hall, hbr⟩ := hrel
    have HALL := Lib.hid hall
    clear hall
    by_cases hlt : m < P.length
    · obtain ⟨b, off, c, hv, hc1, hc2, hblt, hcell⟩ := RdS.at_ (Rd.below HN.out hbr) (by omega)
      cases hv
      unfold maxLen at hc2
      obtain ⟨c0, c1, c2⟩ := hcell m hlt
      have hsu : (P.take (m + 1)).all (eqL L) = eqL L (atS P m) := by
        rw [List.take_succ_eq_append_getElem hlt, List.all_append, HALL.out, ← atS_eq P m hlt]; simp
      have hbad : eqL L (atS P m) = false → P.all (eqL L) = false := fun h => by
        rw [List.all_eq_false]; exact ⟨P[m], List.getElem_mem hlt, by rw [atS_eq P m hlt, h]; simp⟩
      have HSU := Lib.hid hsu
      have HBAD := Lib.hid hbad
      have hc := crossingsOf1_any (atS P m) L bb wr (HB.out.below hbr HB.out.lt)
      clear hcell hsu hbad
      generalize hee : eqL L (atS P m) = E at *
      generalize atS P m = x at *
      have HC := Lib.hid hc
      clear hee hc
      have i1 : (0 : Int) ≤ (m : Int) := by omega
      have i2 : (m : Int) < (P.length : Int) := by omega
      cases E
      · go_wp2_with fail
        refine HC.out.mono ?_
        rintro e wj ⟨rfl, hbj⟩
        have hb2 := hbr.trans (hbj.mono hbr.size)
        go_wp2_with fail
        go_ret
        exact ⟨m, rfl, ⟨fun _ => HBAD.out (by simp), fun _ => by omega⟩, by omega, hb2⟩
      · go_wp2_with fail
        refine HC.out.mono ?_
        rintro e wj ⟨rfl, hbj⟩
        have hb2 := hbr.trans (hbj.mono hbr.size)
        go_wp2_with fail
        go_roundw
        case rel => exact ⟨m + 1, by omega, by go_num, by rw [HSU.out], hb2⟩
        case measure => simp [intOf]; omega
    · obtain rfl : m = P.length := by omega
      go_wp2_with fail
      go_ret
      refine ⟨-1, rfl, ⟨fun h => by omega, fun h => ?_⟩, by omega, hbr⟩
      have := HALL.out
      rw [List.take_length, h] at this
      cases this
theorem containsFuncS_any (v : Value) (P : List Smp) (L : Int) (bb : Nat) (w : World) (hN : RdS w 71 v P) (hlong : P.length ≤ 5000) (hB : Blk w bb 3 #[.int .i64 L]) :
    Calls Try.prog 139 #[v, .func (.func 140) #[] #[.pointer (some ⟨bb, 0, none⟩)]] w fun e w' => e = .returned (.bool (!P.all (eqL L))) ∧ Below w.heap.size w w' := by
  have hix := indexFuncS_any v P L bb w hN hlong hB
  unfold IdxS at hix
  clear hN hB
  generalize P.all (eqL L) = A at *
  have HIX := Lib.hid hix
  clear hix
  go_enter Try.func139, Try.ntmps139
  go_wp2_with fail
  refine HIX.out.mono ?_
  rintro e wj ⟨k, rfl, hk, hk2, hbe⟩
  have HK := Lib.hid hk
  clear hk
  by_cases h0 : 0 ≤ k
  · have hA := HK.out.1 h0
    subst hA
    go_wp2_with fail
    go_ret
    exact ⟨rfl, hbe⟩
  · have hA : A = true := by
      cases hA : A
      · exact absurd (HK.out.2 hA) h0
      · rfl
    subst hA
    have h0' : decide (0 ≤ k) = false := by simpa using h0
    clear h0
    go_wp2_with fail
    go_ret
    exact ⟨rfl, hbe⟩
end Go.Proofs.Ytblbfpokkpkcjaa
