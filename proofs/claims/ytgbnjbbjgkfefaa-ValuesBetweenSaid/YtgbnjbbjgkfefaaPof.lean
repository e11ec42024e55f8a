/- PointsOf (the reference). For a right series, a right window and at most 5000 points. -/
import Derived.Test.YtgbnjbbjgkfefaaPts
import Derived.Test.YtgbnjbbjgkfefaaVof
import Derived.Test.YtgbnjbbjgkfefaaVbt
import Derived.Test.YtgbnjbbjgkfefaaItr
import Derived.Deep.DeepCutAuto
namespace Go.Proofs.Ytgbnjbbjgkfefaa
open Go.RowKit
set_option linter.unusedVariables false
set_option linter.unusedSimpArgs false

def ptsOne (t : Int) : Option Pnt → List Pt
  | none => []
  | some p => [⟨t, p.n, p.d, p.q⟩]
def ptsTo (l : List Smp) (st : Bool) (f ev : Int) : Nat → List Pt
  | 0 => []
  | k + 1 => ptsTo l st f ev k ++ ptsOne (f + k * ev) (valO l st (f + k * ev))
theorem ptsTo_long (l : List Smp) (st : Bool) (f ev : Int) (k : Nat) : (ptsTo l st f ev k).length ≤ k := by
  induction k with
  | zero => simp [ptsTo]
  | succ k ih =>
    rw [show ptsTo l st f ev (k + 1) = ptsTo l st f ev k ++ ptsOne (f + k * ev) (valO l st (f + k * ev)) from rfl]
    cases valO l st (f + k * ev) <;> simp [ptsOne] <;> omega

structure PtK (w0 w1 : World) (f t : Int) (o : Value) (out : List Pt) (w : World) : Prop where
  own : w.ownsRow w1.heap.size 80 4 o out.length (ptCells out)
  bl : Below w1.heap.size w1 w
  bw : Blk w w0.heap.size 76 #[.int .i64 f, .int .i64 t]
theorem PtK.step {w0 w1 w w' : World} {f t : Int} {o : Value} {out : List Pt} (h : PtK w0 w1 f t o out w) (hb : Below w.heap.size w w') : PtK w0 w1 f t o out w' :=
  ⟨own_keep h.own fun b _ _ hh => hb.block b (lt_of_heap hh), h.bl.trans (hb.mono h.bl.size), h.bw.below hb h.bw.lt⟩
theorem PtK.alloc {w0 w1 w : World} {f t : Int} {o : Value} {out : List Pt} (h : PtK w0 w1 f t o out w) (x : Obj) : PtK w0 w1 f t o out (w.alloc x) := h.step ((Below.refl _ _).alloc (Nat.le_refl _) _)
theorem PtK.grown {w0 w1 w w' : World} {f t : Int} {o o' : Value} {out : List Pt} (h : PtK w0 w1 f t o out w) (x : Pt) (hB0 : w0.heap.size < w1.heap.size) (hg : w.grownBy w' o.ownBlock) (ho : w'.ownsRow w1.heap.size 80 4 o' (out.length + 1) (ptCells (out ++ [x]))) : PtK w0 w1 f t o' (out ++ [x]) w' :=
  ⟨by simpa using ho, h.bl.trans (below_grown h.own h.bl.size hg), h.bw.below (below_grown h.own h.bl.size hg) hB0⟩

set_option maxRecDepth 100000 in
set_option maxHeartbeats 4000000 in
theorem pointsOf_any (v : Value) (l : List Smp) (st : Bool) (f t ev : Int) (w : World) (hR : RdS w 71 v l) (hS : Rise none l) (hlong : l.length ≤ 5000) (hr : ∀ i, i < l.length → Right (atS l i)) (hW : 0 ≤ f ∧ f ≤ t ∧ t ≤ 345686400000)
    (hv : 1 ≤ ev ∧ ev ≤ 86400000) (hc : ptsCnt f t ev ≤ 5000) :
    Calls Try.prog 52 #[v, .bool st, .agg #[.int .i64 f, .int .i64 t], .int .i64 ev] w fun e w' => ∃ vr, e = .returned vr ∧ RdP w' vr (ptsTo l st f ev (ptsCnt f t ev)) ∧ Below w.heap.size w w' := by
  have hB0 := Blk.new w 76 #[.int .i64 f, .int .i64 t]
  have hR1 : RdS _ 71 v l := Rd.alloc hR (.cells #[.int .i64 f, .int .i64 t] 76)
  have hbw : Below w.heap.size w (w.alloc (.cells #[.int .i64 f, .int .i64 t] 76)) := (Below.refl _ w).alloc (Nat.le_refl _) _
  have hsz : (w.alloc (.cells #[.int .i64 f, .int .i64 t] 76)).heap.size = w.heap.size + 1 := by simp
  have hvo := fun (A : Int) (w : World) (hR : RdS w 71 v l) (h : 0 ≤ A ∧ A ≤ 345686400000) => valueOf_any v l st A w hR hS hlong hr h
  have hlt := fun k => ptsCnt_lt f t ev k hv.1
  go_enter Try.func52, Try.ntmps52
  go_upto_region 1 with fail
  generalize w.alloc (.cells #[.int .i64 f, .int .i64 t] 76) = w1 at *
  generalize hcn : ptsCnt f t ev = C at *
  have HVO := Lib.hid hvo
  have HLT := Lib.hid hlt
  have HR1 := Lib.hid hR1
  have HBW := Lib.hid hbw
  have HCN := Lib.hid hcn
  have hlt0 : w.heap.size < w1.heap.size := by omega
  have e0 := hB0.cell 0
  have e1 := hB0.cell 1
  clear hS hr hR hR1 hbw hsz hvo hlt hcn
  go_wp2_with fail
  go_loopw [9, 10] (fun o i wr => ∃ (k : Nat) (A : Int), k ≤ C ∧ i = .int .i64 A ∧ A = f + k * ev ∧ PtK w w1 f t o (ptsTo l st f ev k) wr) (fun _ i _ => (t - intOf i).toNat)
  case atStart => exact ⟨0, f, by omega, rfl, by simp, World.ownsRow_nil _ _ _ _, Below.refl _ _, hB0⟩
  case round =>
    obtain ⟨k, A, hk, rfl, hA, hst⟩ := hrel
    have hlk := HLT.out k
    rw [← hA] at hlk
    have e0 := hst.bw.cell 0
    have e1 := hst.bw.cell 1
    have hA0 : f ≤ A := by
      have : 0 ≤ (k : Int) * ev := Int.mul_nonneg (by omega) (by omega)
      omega
    have hA1 : A + ev = f + ((k + 1 : Nat) : Int) * ev := by rw [hA, show ((k + 1 : Nat) : Int) = (k : Int) + 1 from by omega, Int.add_mul, Int.one_mul]; omega
    have hnext : ptsTo l st f ev (k + 1) = ptsTo l st f ev k ++ ptsOne A (valO l st A) := by rw [hA]; rfl
    have hlong2 := ptsTo_long l st f ev k
    have HA1 := Lib.hid hA1
    have HN := Lib.hid hnext
    have HA := Lib.hid hA
    clear hA hA1 hnext
    by_cases hat : A < t
    · have hkC := hlk.1 hat
      have hRr : RdS wr 71 v l := HR1.out.below hst.bl (Nat.le_refl _)
      generalize hout : ptsTo l st f ev k = out at *
      have HST := Lib.hid hst
      have HOUT := Lib.hid hout
      clear hst hout hlk
      go_wp2_with fail
      refine (HVO.out A wr hRr (by omega)).mono ?_
      rintro e w2 ⟨rfl, hb2⟩
      have hs2 := HST.out.step hb2
      generalize valO l st A = O at *
      clear hRr e0 e1
      have e0 := hs2.bw.cell 0
      have e1 := hs2.bw.cell 1
      cases O with
      | none =>
        simp only [pntV, Option.isSome_none]
        have HS2 := Lib.hid hs2
        clear hs2
        go_wp2_with fail
        go_roundw
        case rel => exact ⟨k + 1, A + ev, by omega, rfl, HA1.out, by rw [HN.out]; simpa [ptsOne] using HS2.out.alloc _⟩
        case measure => simp [intOf]; omega
      | some p =>
        simp only [pntV, Option.isSome_some]
        have ho := (hs2.alloc (.cells #[.int .i64 A, .int .i64 p.n, .int .i64 p.d, .int .i64 p.q] 80)).alloc (.cells #[.int .i64 A, .int .i64 p.n, .int .i64 p.d, .int .i64 p.q] 80)
        have HO := Lib.hid ho
        have hso := ho.bl.size
        clear ho hs2
        go_wp2_with (at_builtin; go_loud (refine wpList_append_pt rfl (.tmp 30) (.tmp 32) rfl w1.heap.size u9 out.length out rfl (by exact HO.out.own) (w2.heap.size + 1) rfl ⟨A, p.n, p.d, p.q⟩ (by exact Blk.new1 _ _ _ _) (by omega) (by exact hso) ?_); intro v1 wd hown1 hgrow1)
        have hkd := HO.out.grown ⟨A, p.n, p.d, p.q⟩ hlt0 hgrow1 hown1
        clear hown1 hgrow1
        have e0 := hkd.bw.cell 0
        go_wp2_with fail
        go_roundw
        case rel => exact ⟨k + 1, A + ev, by omega, rfl, HA1.out, by rw [HN.out]; simpa [ptsOne] using hkd⟩
        case measure => simp [intOf]; omega
    · have hkC : k = C := by omega
      subst hkC
      go_wp2_with fail
      go_ret
      exact ⟨_, rfl, by rw [HCN.out]; exact Rd.of_own hst.own, HBW.out.trans (hst.bl.mono (by omega))⟩
end Go.Proofs.Ytgbnjbbjgkfefaa
