/- The contract of checkWithin (package query), at one series and at two. -/
import Derived.Test.YtmcojidaimeijaaWinb
import Derived.Test.YtmcojidaimeijaaApp
namespace Go.Proofs.Ytmcojidaimeijaa
open Go.RowKit
set_option linter.unusedVariables false
set_option linter.unusedSimpArgs false

/-- What checkWithin keeps. -/
structure KQ (w0 : World) (f t : Int) (b : Nat) (cs : Array Value) (vs : List (Value × List Smp)) (w : World) : Prop where
  bw : Blk w w0.heap.size 43 #[.int .i64 f, .int .i64 t]
  bl : Blk w b 26 cs
  rd : ∀ p ∈ vs, RdS w 57 p.1 p.2
  be : Below w0.heap.size w0 w
theorem KQ.step {w0 w w' : World} {f t : Int} {b : Nat} {cs : Array Value} {vs : List (Value × List Smp)} (hb : Below w.heap.size w w') (h : KQ w0 f t b cs vs w) : KQ w0 f t b cs vs w' :=
  ⟨h.bw.below hb h.bw.lt, h.bl.below hb h.bl.lt, fun p hp => Rd.below (h.rd p hp) hb, h.be.trans (hb.mono h.be.size)⟩
theorem KQ.start {w : World} {f t : Int} {b : Nat} {cs : Array Value} {vs : List (Value × List Smp)} (hB : Blk w b 26 cs) (hr : ∀ p ∈ vs, RdS w 57 p.1 p.2) :
    KQ w f t b cs vs (w.alloc (.cells #[.int .i64 f, .int .i64 t] 43)) :=
  ⟨Blk.new w _ _, hB.alloc _, fun p hp => Rd.alloc (hr p hp) _, (Below.refl _ w).alloc (Nat.le_refl _) _⟩

set_option maxRecDepth 100000 in
set_option maxHeartbeats 1000000 in
theorem qcheck1_any (b : Nat) (v : Value) (l : List Smp) (f t : Int) (w : World) (hB : Blk w b 26 #[v]) (hR : RdS w 57 v l) :
    Calls Try.prog 57 #[.agg #[.int .i64 f, .int .i64 t], .slice (some ⟨b, 0, none⟩) 1 1] w fun e w' => e = .returned (.int .i64 (orE (serErr l) (winErr f t))) ∧ Below w.heap.size w w' := by
  have hk0 := KQ.start (f := f) (t := t) (vs := [(v, l)]) hB (fun p hp => by simp at hp; subst hp; exact hR)
  have HK0 := Lib.hid hk0
  have c0 : (w.alloc (.cells #[.int .i64 f, .int .i64 t] 43)).cell? ⟨b, 0, none⟩ = some v := hk0.bl.cell 0
  have hE : orE (serErr l) (winErr f t) = if serErr l ≠ 0 then serErr l else winErr f t := rfl
  have hbl := hB.lt
  generalize orE (serErr l) (winErr f t) = E at *
  have HE := Lib.hid hE
  clear hE hk0 hB hR
  go_enter Try.func57, Try.ntmps57
  go_wp2_with fail
  generalize w.alloc (.cells #[.int .i64 f, .int .i64 t] 43) = wz at *
  refine wp_loop_rounds 2 ?_
  rw [rounds_succ]
  go_wp2_with fail
  refine (checkSeries_any v l _ (HK0.out.rd (v, l) (by simp))).mono ?_
  rintro e w1 ⟨rfl, hb1⟩
  have hk1 := KQ.step hb1 HK0.out
  have e0 : w1.cell? ⟨w.heap.size, 0, none⟩ = some (.int .i64 f) := hk1.bw.cell 0
  have e1 : w1.cell? ⟨w.heap.size, 1, none⟩ = some (.int .i64 t) := hk1.bw.cell 1
  clear hb1
  by_cases hS : serErr l = 0
  · have hS' : (serErr l != 0) = false := by simpa using hS
    have HS := Lib.hid hS
    clear hS
    go_wp2_with fail
    rw [rounds_succ]
    go_wp2_with fail
    refine (window_any f t _).mono ?_
    rintro e w2 ⟨rfl, hb2⟩
    have hk2 := KQ.step hb2 hk1
    have hwin : winErr f t = if winB f t = true then 0 else 1 := rfl
    have HW := Lib.hid hwin
    clear hwin
    cases hw : winB f t
    · have HW2 := Lib.hid hw
      clear hw
      go_wp2_with fail
      go_ret
      exact ⟨ret_int (by rw [HE.out, if_neg (by rw [HS.out]; simp), HW.out, HW2.out]; simp), hk2.be⟩
    · have HW2 := Lib.hid hw
      clear hw
      go_wp2_with fail
      go_ret
      exact ⟨ret_int (by rw [HE.out, if_neg (by rw [HS.out]; simp), HW.out, HW2.out]; simp), hk2.be⟩
  · have hS' : (serErr l != 0) = true := by simpa using hS
    have HS := Lib.hid hS
    clear hS
    go_wp2_with fail
    go_ret
    exact ⟨ret_int (by rw [HE.out, if_pos HS.out]), hk1.be⟩
end Go.Proofs.Ytmcojidaimeijaa
