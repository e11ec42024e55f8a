/- NumbersEncoded: the walk of the law. No condition. -/
import Derived.Test.YtiaoclnhocadeaaRaw
import Derived.Test.YtiaoclnhocadeaaUnvr
import Derived.Test.YtiaoclnhocadeaaOdd
namespace Go.Proofs.Ytiaoclnhocadeaa
open Go.RowKit
set_option linter.unusedVariables false
set_option linter.unusedSimpArgs false

/-- What Unvarint returns. -/
def unvR (l : List Int) (r : Int) : Int × Int × Int := if inB r 0 l.length = true then unv l r.toNat 0 else (0, 0, 1)

set_option maxRecDepth 100000 in
set_option maxHeartbeats 400000 in
theorem unvarint_all (v : Value) (l : List Int) (r : Int) (w : World) (hR : RdB w v l) (hB : IsB l) (hlong : l.length ≤ 1000000000) :
    Calls Try.prog 21 #[v, .int .i64 r] w fun e w' => e = .returned (.tuple #[.int .i64 (unvR l r).1, .int .i64 (unvR l r).2.1, .int .i64 (unvR l r).2.2]) ∧ w = w' := by
  by_cases h : inB r 0 l.length = true
  · have h' := inB_true.1 h
    obtain ⟨a, rfl⟩ : ∃ a : Nat, r = (a : Int) := ⟨r.toNat, by omega⟩
    have e : unvR l (a : Int) = unv l a 0 := by unfold unvR; rw [if_pos h, Int.toNat_natCast]
    rw [e]
    exact unvarint_any v l a w hR hB (by omega) hlong
  · have e : unvR l r = (0, 0, 1) := by unfold unvR; rw [if_neg h]
    rw [e]
    have h' : inB r 0 l.length = false := by simpa using h
    obtain ⟨pa, ca, rfl, hc1, hc2⟩ := hR.lenv
    have hv := fun w => within_any r 0 l.length w
    rw [h'] at hv
    clear e h h' hR hB
    go_enter Try.func21, Try.ntmps21
    go_wp2_with (go_at_call 44; refine (hv _).mono ?_; rintro e w' ⟨rfl, rfl⟩)
    go_ret3
    exact ⟨rfl, rfl⟩
set_option maxRecDepth 100000 in
set_option maxHeartbeats 400000 in
theorem unvarintOf_all (v : Value) (l : List Int) (r : Int) (w : World) (hR : RdB w v l) (hB : IsB l) (hlong : l.length ≤ 1000000000) :
    Calls Try.prog 23 #[v, .int .i64 r] w fun e w' => e = .returned (.tuple #[.int .i64 (unvR l r).1, .int .i64 (unvR l r).2.1, .int .i64 (unvR l r).2.2]) ∧ Below w.heap.size w w' := by
  by_cases h : inB r 0 l.length = true
  · have h' := inB_true.1 h
    obtain ⟨a, rfl⟩ : ∃ a : Nat, r = (a : Int) := ⟨r.toNat, by omega⟩
    have e : unvR l (a : Int) = unv l a 0 := by unfold unvR; rw [if_pos h, Int.toNat_natCast]
    rw [e]
    exact unvarintOf_any v l a w hR hB (by omega) hlong
  · have e : unvR l r = (0, 0, 1) := by unfold unvR; rw [if_neg h]
    rw [e]
    have h' : inB r 0 l.length = false := by simpa using h
    obtain ⟨pa, ca, rfl, hc1, hc2⟩ := hR.lenv
    have hv := fun w => in_any r 0 l.length w
    rw [h'] at hv
    clear e h h' hR hB
    go_enter Try.func23, Try.ntmps23
    go_wp2_with (go_at_call 46; refine (hv _).mono ?_; rintro e w' ⟨rfl, rfl⟩)
    go_ret3
    exact ⟨rfl, Below.refl _ _⟩

theorem but_below {w0 w w' : World} {g : Nat} (h : But g w w') (hg : w0.heap.size ≤ g) (hs : w0.heap.size ≤ w.heap.size) : Below w0.heap.size w w' :=
  ⟨h.os, h.tape, h.output, h.size, fun i hi => h.block i (by omega) (by omega)⟩

set_option maxRecDepth 100000 in
set_option maxHeartbeats 4000000 in
theorem numbersEncoded_walk (w : World) (L : List Int) (A : Option Addr) (cap : Nat) (hc : ∀ i, i < L.length → ∃ ad : Addr, A = some ad ∧ ad.block < w.heap.size ∧ w.cell? (ad.add i) = some (.int .i64 (L.getD i 0)))
    (hl : L.length ≤ 9223372036854775807) (hwf : ∀ i, -9223372036854775808 ≤ L.getD i 0 ∧ L.getD i 0 ≤ 9223372036854775807) :
    Calls Try.prog 4 #[.slice A L.length cap] w fun e w' => e = .returned (.bool true) ∧ Below w.heap.size w w' := by
  have hS0 : Strm (w.alloc (.cells #[.slice A L.length cap, .int .i64 0] 25)) w.heap.size L A cap 0 :=
    ⟨heap_alloc_new w _, fun i hi => by
      obtain ⟨ad, e, hb, hcell⟩ := hc i hi
      exact ⟨ad, e, hb, by rw [World.cell?_alloc_lt _ _ _ (by rw [addr_add_block]; exact hb)]; exact hcell⟩, hl, hwf⟩
  have HS0 := Lib.hid hS0
  clear hS0 hc hwf
  go_enter Try.func4, Try.ntmps4
  go_wp2_with fail
  refine (aNumber_went _ w.heap.size L A cap 0 HS0.out (by omega)).mono ?_
  rintro e w1 ⟨n, rfl, hw1⟩
  go_wp2_with fail
  refine (rawBytes_went _ w.heap.size L A cap 1 hw1.1 (by omega)).mono ?_
  rintro e w2 ⟨v, rfl, bs, j, hown, hB, hlen, hj, hw2⟩
  have hrd := hown.rd
  obtain ⟨pv, cv, rfl, hcv1, hcv2⟩ := hrd.lenv
  go_wp2_with fail
  refine (odd_went _ w.heap.size L A cap j 0 bs.length hw2.1 (by omega) (by omega) (by omega) (by omega)).mono ?_
  rintro e w3 ⟨r, rfl, hr, hw3⟩
  have hown3 := hown.but hw2.1 hw3.2
  have hrd3 := hown3.rd
  have hbl3 : Below w.heap.size w w3 := ((Below.refl _ w).alloc (Nat.le_refl _) _).trans (but_below (hw1.2.trans (hw2.2.trans hw3.2)) (Nat.le_refl _) (by simp))
  clear hw1 hw2 hw3 hown hown3 hrd HS0
  go_wp2_with fail
  refine (varint_any n w3).mono ?_
  rintro e w4 ⟨v4, rfl, ho4, hb4⟩
  have hrd4 := hrd3.below hb4 (Nat.le_refl _)
  have hbl4 := hbl3.trans (hb4.mono hbl3.size)
  clear hrd3 hbl3 hb4
  go_wp2_with fail
  refine (unvarint_all _ bs r w4 hrd4 hB (by omega)).mono ?_
  rintro e w' ⟨rfl, rfl⟩
  go_wp2_with fail
  refine (varintOf_any n w4).mono ?_
  rintro e w5 ⟨v5, rfl, ho5, hb5⟩
  have hrd5 := hrd4.below hb5 (Nat.le_refl _)
  have hbl5 := hbl4.trans (hb5.mono hbl4.size)
  have ho45 := ho4.below hb5
  clear hrd4 hbl4 hb5 ho4
  go_wp2_with fail
  refine (unvarintOf_all _ bs r w5 hrd5 hB (by omega)).mono ?_
  rintro e w6 ⟨rfl, hb6⟩
  have hrd6 := hrd5.below hb6 (Nat.le_refl _)
  have hbl6 := hbl5.trans (hb6.mono hbl5.size)
  have hr4 := (ho45.below hb6).rd
  have hr5 := (ho5.below hb6).rd
  have hBv := varR_bytes n
  clear hrd5 hbl5 hb6 ho45 ho5
  generalize (unvR bs r).1 = x1 at *
  generalize (unvR bs r).2.1 = x2 at *
  generalize (unvR bs r).2.2 = x3 at *
  generalize (varR n).1 = vv at *
  generalize (varR n).2 = ee at *
  have he := bytesEqual_any v4 v5 vv vv w6 hr4 hr5 hBv hBv
  rw [decide_eq_true (rfl : vv = vv)] at he
  have hk1 := checksum_any _ bs w6 hrd6 hB
  have hk2 := checksumOf_any _ bs w6 hrd6 hB
  generalize csum bs = cs at *
  have g1 : (x1 == x1) = true := by simp
  have g2 : (x2 == x2) = true := by simp
  have g3 : (x3 == x3) = true := by simp
  have g4 : (ee == ee) = true := by simp
  have g5 : (cs == cs) = true := by simp
  have HE := Lib.hid he
  have HK1 := Lib.hid hk1
  have HK2 := Lib.hid hk2
  clear he hk1 hk2 hr4 hr5 hrd6
  go_wp2_with (first
    | (go_at_call 24; refine HE.out.mono ?_; rintro e w' ⟨rfl, rfl⟩)
    | (go_at_call 25; refine HK1.out.mono ?_; rintro e w' ⟨rfl, rfl⟩)
    | (go_at_call 26; refine HK2.out.mono ?_; rintro e w' ⟨rfl, rfl⟩)
    | (go_at_call 27; refine (archived_any _).mono ?_; rintro e w7 ⟨rfl, hb7⟩))
  go_ret
  exact ⟨rfl, hbl6.trans (hb7.mono hbl6.size)⟩
end Go.Proofs.Ytiaoclnhocadeaa
