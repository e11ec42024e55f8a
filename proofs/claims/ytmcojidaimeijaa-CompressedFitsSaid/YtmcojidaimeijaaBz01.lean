import Derived.Deep.QuietTactic
import Derived.Test.YtmcojidaimeijaaSer
import Derived.Lib.SliceRun
import Derived.Laws.StructEq
import Derived.Deep.RegionLaw
import Derived.Test.YtmcojidaimeijaaAt
import Derived.Test.YtmcojidaimeijaaSerr
import Derived.Deep.DeepCutAuto
import Derived.Test.YtmcojidaimeijaaRecon
import Derived.Deep.RegionHeld3
import Derived.RegionTactic
import Derived.WalkLawsBesides
import Derived.Test.YtmcojidaimeijaaDist
import Derived.Test.YtmcojidaimeijaaRise
/- Equality of samples; slices.Equal at samples. -/

namespace Go.Proofs.Ytmcojidaimeijaa
open Go.RowKit
set_option linter.unusedVariables false
set_option linter.unusedSimpArgs false

theorem smp_held : Try.prog.stoodInHeld 57 = false := by kernel_rfl
theorem smp_guard : Try.prog.eqGuardType Try.prog.depth 57 = false := by kernel_rfl
theorem smp_fields : (Try.prog.fieldsOf 57).toList.map (fun f => (f.name, f.type, f.offset)) = [("At", 3, 0), ("Value", 3, 1), ("Quality", 3, 2)] := by kernel_rfl
theorem smp_under : Try.prog.underlying 57 = some (.struct (Try.prog.fieldsOf 57)) := by kernel_rfl
theorem int_size : (Try.prog.info? 3).map (fun i => (i.zero, i.size, i.bytes)) = some (some (.int .i64 0), 1, 8) := by kernel_rfl

theorem fields3 {fs : List Field} {a b c : String × TypeId × Nat} (h : fs.map (fun f => (f.name, f.type, f.offset)) = [a, b, c]) :
    ∃ f g k : Field, fs = [f, g, k] ∧ f.name = a.1 ∧ f.type = a.2.1 ∧ f.offset = a.2.2 ∧ g.name = b.1 ∧ g.type = b.2.1 ∧ g.offset = b.2.2 ∧ k.name = c.1 ∧ k.type = c.2.1 ∧ k.offset = c.2.2 := by
  match fs, h with
  | [f, g, k], h =>
    simp only [List.map_cons, List.map_nil, List.cons.injEq, and_true] at h
    obtain ⟨h1, h2, h3⟩ := h
    exact ⟨f, g, k, rfl, by rw [← h1], by rw [← h1], by rw [← h1], by rw [← h2], by rw [← h2], by rw [← h2], by rw [← h3], by rw [← h3], by rw [← h3]⟩

theorem smp_eq (w : World) (x y : Smp) : (Op.equalIn 10000 57 x.agg y.agg).run Try.prog w = .ok (decide (x = y)) w := by
  obtain ⟨f, g, k, hf, f1, f2, f3, g1, g2, g3, k1, k2, k3⟩ := fields3 smp_fields
  obtain ⟨i0, hi0, hz0, hz1, hz2⟩ := info_parts int_size
  obtain ⟨t, v, q⟩ := x
  obtain ⟨t', v', q'⟩ := y
  unfold Smp.agg
  rw [run_equalIn_struct w 9999 57 _ _ smp_under smp_held, hf]
  simp [Op.eqFields, f1, f2, f3, g1, g2, g3, k1, k2, k3, part, sizeOf, typeInfo, hi0, hz1, go_sem, Try.underlying3]
  by_cases h1 : t = t' <;> by_cases h2 : v = v' <;> by_cases h3 : q = q' <;> simp [h1, h2, h3]
theorem smp_neq (w : World) (x y : Smp) : (binOp .neq 57 (.agg #[.int .i64 x.t, .int .i64 x.v, .int .i64 x.q]) (.agg #[.int .i64 y.t, .int .i64 y.v, .int .i64 y.q])).run Try.prog w = .ok (.bool (!(decide (x = y)))) w := by
  have h := smp_eq w x y
  unfold Smp.agg at h
  rw [run_neq_struct, h]
  rfl


set_option maxRecDepth 100000 in
set_option maxHeartbeats 1000000 in
theorem equal_any (v v' : Value) (l l' : List Smp) (w : World) (hR : RdS w 57 v l) (hR' : RdS w 57 v' l') :
    Calls Try.prog 27 #[v, v'] w fun e w' => e = .returned (.bool (decide (l = l'))) ∧ ∃ m, w' = w.drewN m := by
  by_cases hle : l.length = l'.length
  · rcases Nat.eq_zero_or_pos l.length with h0 | h0
    · obtain rfl := List.eq_nil_of_length_eq_zero h0
      obtain rfl : l' = [] := List.eq_nil_of_length_eq_zero (by simpa using hle.symm)
      obtain ⟨_, a, c, rfl, _, _, _⟩ := hR
      obtain ⟨_, a', c', rfl, _, _, _⟩ := hR'
      clear hle h0
      go_enter Try.func27, Try.ntmps27
      go_wp2_with fail
      refine wp_loop_rounds 1 ?_
      rw [rounds_succ]
      go_wp2_with fail
      go_ret
      exact ⟨rfl, 0, rfl⟩
    · obtain ⟨b, off, c, rfl, hc1, hc2, hblt, hcell⟩ := RdS.cells hR h0
      obtain ⟨b', off', c', rfl, hc1', hc2', hblt', hcell'⟩ := RdS.cells hR' (by omega)
      unfold maxLen at hc2 hc2'
      have HC := Lib.hid hcell
      have HC' := Lib.hid hcell'
      have HLE := Lib.hid hle
      have hne : ((l.length : Int) != (l'.length : Int)) = false := by rw [hle]; simp
      clear hcell hcell' hle
      go_enter Try.func27, Try.ntmps27
      go_wp2_with fail
      go_loopw [13] (fun i wr => ∃ j : Nat, j ≤ l.length ∧ i = .int .i64 (j : Int) ∧ l.take j = l'.take j ∧ ∃ m, wr = w.drewN m) (fun i _ => l.length - (intOf i).toNat)
      case atStart => exact ⟨0, by omega, rfl, by simp, 0, rfl⟩
      case round =>
        obtain ⟨j, hj, rfl, heq, m, rfl⟩ := hrel
        have HEQ := Lib.hid heq
        clear heq
        by_cases hlt : j < l.length
        · have hlt' : j < l'.length := by have := HLE.out; omega
          obtain ⟨c0, c1, c2⟩ := HC.out j hlt
          obtain ⟨d0, d1, d2⟩ := HC'.out j hlt'
          have hlt2 : (j : Int) < (l'.length : Int) := by omega
          have htk : l.take (j + 1) = l.take j ++ [l[j]] := by rw [List.take_succ_eq_append_getElem hlt]
          have htk' : l'.take (j + 1) = l'.take j ++ [l'[j]] := by rw [List.take_succ_eq_append_getElem hlt']
          have hgl : l[j]? = some l[j] := List.getElem?_eq_getElem hlt
          have hgl' : l'[j]? = some l'[j] := List.getElem?_eq_getElem hlt'
          generalize l[j] = x at *
          generalize l'[j] = y at *
          have HTK := Lib.hid htk
          have HTK' := Lib.hid htk'
          have HG := Lib.hid hgl
          have HG' := Lib.hid hgl'
          clear htk htk' hgl hgl'
          have hgd := smp_guard
          by_cases hxy : x = y
          · have hneq : ∀ w : World, (binOp .neq 57 (.agg #[.int .i64 x.t, .int .i64 x.v, .int .i64 x.q]) (.agg #[.int .i64 y.t, .int .i64 y.v, .int .i64 y.q])).run Try.prog w = .ok (.bool false) w := fun w => by rw [smp_neq, decide_eq_true hxy]; rfl
            have HXY := Lib.hid hxy
            clear hxy
            go_wp2_with fail
            go_quiet (fail)
            go_wp2_with fail
            go_roundw
            case rel => exact ⟨j + 1, by omega, by go_num, by rw [HTK.out, HTK'.out, HEQ.out, HXY.out], _, rfl⟩
            case measure => simp [intOf]; omega
          · have hneq : ∀ w : World, (binOp .neq 57 (.agg #[.int .i64 x.t, .int .i64 x.v, .int .i64 x.q]) (.agg #[.int .i64 y.t, .int .i64 y.v, .int .i64 y.q])).run Try.prog w = .ok (.bool true) w := fun w => by rw [smp_neq, decide_eq_false hxy]; rfl
            have HXY := Lib.hid hxy
            clear hxy
            go_wp2_with fail
            go_quiet (fail)
            go_wp2_with fail
            go_ret
            have hd : decide (l = l') = false := by
              refine decide_eq_false fun he => HXY.out ?_
              have h1 := HG.out
              rw [he, HG'.out] at h1
              exact (Option.some.inj h1).symm
            exact ⟨ret_bool hd.symm, _, World.drewN_drewN _ _ _⟩
        · obtain rfl : j = l.length := by omega
          have hd : decide (l = l') = true := by
            refine decide_eq_true ?_
            have h1 := HEQ.out
            rw [List.take_of_length_le (Nat.le_refl _), List.take_of_length_le (by have := HLE.out; omega)] at h1
            exact h1
          have HD := Lib.hid hd
          clear hd
          go_wp2_with fail
          go_ret
          exact ⟨ret_bool HD.out.symm, m, rfl⟩
  · obtain ⟨_, a, c, rfl, _, _, _⟩ := hR
    obtain ⟨_, a', c', rfl, _, _, _⟩ := hR'
    have hne : ((l.length : Int) != (l'.length : Int)) = true := by simp; omega
    have hd : decide (l = l') = false := decide_eq_false fun he => hle (by rw [he])
    have HD := Lib.hid hd
    clear hd hle
    go_enter Try.func27, Try.ntmps27
    go_wp2_with fail
    go_ret
    exact ⟨ret_bool HD.out.symm, 0, rfl⟩
end Go.Proofs.Ytmcojidaimeijaa

/- append of one number; slices of numbers; slices.Equal at numbers. -/

namespace Go.Proofs.Ytmcojidaimeijaa
open Go.RowKit
set_option linter.unusedVariables false
set_option linter.unusedSimpArgs false

/-- append of one number that lies alone in block b. -/
theorem wpList_append_num {w : World} {ops : Array Oper} {rest : List Oper} {o : Oper} {a : Act} {Q : Exit → Act → World → Prop} (hgd : o.guard = none) (s x : Operand)
    (ho : o.op = .call { callee := .builtin .append, args := #[s, x], argTypes := #[22, 22] })
    (base : Nat) (v : Value) (n : Nat) (l : List Int) (hs : a.eval s = v) (hown : w.ownsRow base 3 1 v n (l.map (Value.int .i64))) (b : Nat) (hx : a.eval x = .slice (some ⟨b, 0, none⟩) 1 1) (y : Int)
    (hb : Blk w b 3 #[.int .i64 y]) (hn : n ≤ 100000000) (hbase : base ≤ w.heap.size)
    (h : ∀ v' w', w'.ownsRow base 3 1 v' (n + 1) ((l ++ [y]).map (Value.int .i64)) → w.grownBy w' v.ownBlock → wpList Try.prog ops Q rest (a.put o.dst v') w') : wpList Try.prog ops Q (o :: rest) a w := by
  obtain ⟨i0, hi0, hz0, hz1, hz2⟩ := info_parts int_size
  refine wpList_append_own w hgd s x 22 ho base 3 i0 _ 1 8 Try.underlying22 hi0 hz0 hz1 hz2 rfl (by decide) v n _ hs hown ⟨b, 0, none⟩ 1 1 [.int .i64 y] hx rfl ?_ ?_ ?_ ?_ hbase ?_
  · intro j u hu
    have hj : j = 0 := by
      rcases Nat.eq_zero_or_pos j with h | h
      · exact h
      · rw [List.getElem?_eq_none (by simp; omega)] at hu; cases hu
    subst hj
    have e1 : (⟨b, 0, none⟩ : Addr).add 0 = ⟨b, 0, none⟩ := rfl
    rw [e1, hb.cell 0, ← hu]
    rfl
  · intro u hu
    simp at hu
    subst hu; rfl
  · simp only [maxLen]; omega
  · omega
  · intro v' w' h1 h2 _
    exact h v' w' (by simpa using h1) h2

/-- A slice of numbers reads as l. -/
def RdI (w : World) (v : Value) (l : List Int) : Prop := Rd w 3 1 v l.length (l.map (Value.int .i64))
theorem RdI.cells {w : World} {v : Value} {l : List Int} (h : RdI w v l) (hn : 0 < l.length) :
    ∃ b off c, v = .slice (some ⟨b, off, none⟩) l.length c ∧ l.length ≤ c ∧ c ≤ maxLen ∧ b < w.heap.size ∧ ∀ i (hi : i < l.length), w.cell? ⟨b, off + i, none⟩ = some (.int .i64 l[i]) := by
  obtain ⟨b, off, c, hv, h2, h3, hlt, hc⟩ := Rd.cell h hn
  refine ⟨b, off, c, hv, h2, h3, hlt, fun i hi => ?_⟩
  rw [hc i (by omega)]
  simp [hi]

end Go.Proofs.Ytmcojidaimeijaa

/- The steps of a series (reference): mathematics, and the walk of StepsOf. No condition beyond the contract's. -/

namespace Go.Proofs.Ytmcojidaimeijaa
open Go.RowKit
set_option linter.unusedVariables false
set_option linter.unusedSimpArgs false

/-- The sample j begins or ends the series, or differs from the one before. -/
def stpB (l : List Smp) (j : Nat) : Bool := decide (j = 0 ∨ j + 1 = l.length ∨ (atS l j).v ≠ (atS l (j - 1)).v ∨ (atS l j).q ≠ (atS l (j - 1)).q)
def stpTo (l : List Smp) : Nat → List Int
  | 0 => []
  | j + 1 => if stpB l j = true then stpTo l j ++ [(j : Int)] else stpTo l j
theorem stpTo_long (l : List Smp) (j : Nat) : (stpTo l j).length ≤ j := by
  induction j with
  | zero => simp [stpTo]
  | succ j ih =>
    rw [show stpTo l (j + 1) = if stpB l j = true then stpTo l j ++ [(j : Int)] else stpTo l j from rfl]
    split
    · simp; omega
    · omega

structure StK (w1 : World) (o : Value) (out : List Int) (w : World) : Prop where
  own : w.ownsRow w1.heap.size 3 1 o out.length (out.map (Value.int .i64))
  bl : Below w1.heap.size w1 w
theorem StK.step {w1 w w' : World} {o : Value} {out : List Int} (h : StK w1 o out w) (hb : Below w.heap.size w w') : StK w1 o out w' :=
  ⟨own_keep h.own fun b _ _ hh => hb.block b (lt_of_heap hh), h.bl.trans (hb.mono h.bl.size)⟩
theorem StK.alloc {w1 w : World} {o : Value} {out : List Int} (h : StK w1 o out w) (x : Obj) : StK w1 o out (w.alloc x) := h.step ((Below.refl _ _).alloc (Nat.le_refl _) _)
theorem StK.drewN {w1 w : World} {o : Value} {out : List Int} (h : StK w1 o out w) (m : Nat) : StK w1 o out (w.drewN m) :=
  h.step (show Below w.heap.size w (w.drewN m) from ⟨rfl, rfl, rfl, Nat.le_refl _, fun _ _ => rfl⟩)
theorem StK.grown {w1 w w' : World} {o o' : Value} {out : List Int} (h : StK w1 o out w) (x : Int) (hg : w.grownBy w' o.ownBlock) (ho : w'.ownsRow w1.heap.size 3 1 o' (out.length + 1) ((out ++ [x]).map (Value.int .i64))) : StK w1 o' (out ++ [x]) w' :=
  ⟨by simpa using ho, h.bl.trans (below_grown h.own h.bl.size hg)⟩

end Go.Proofs.Ytmcojidaimeijaa

/- The contract of ValueAt (package query). -/

namespace Go.Proofs.Ytmcojidaimeijaa
open Go.RowKit
set_option linter.unusedVariables false
set_option linter.unusedSimpArgs false

/-- A point: its value and its quality. -/
structure Pnt where
  n : Int
  d : Int
  q : Int
/-- The value at a moment. -/
def valO (l : List Smp) (st : Bool) (t : Int) : Option Pnt :=
  if posF l (t + 1) = 0 then none
  else if st = true ∨ (atS l (posF l (t + 1) - 1)).t = t ∨ (atS l (posF l (t + 1) - 1)).q = 2 ∨ posF l (t + 1) = l.length ∨ (atS l (posF l (t + 1))).q = 2 then
    some ⟨(atS l (posF l (t + 1) - 1)).v, 1, (atS l (posF l (t + 1) - 1)).q⟩
  else some ⟨(lineAt (atS l (posF l (t + 1) - 1)) (atS l (posF l (t + 1))) t).1, (lineAt (atS l (posF l (t + 1) - 1)) (atS l (posF l (t + 1))) t).2, if (atS l (posF l (t + 1) - 1)).q < (atS l (posF l (t + 1))).q then (atS l (posF l (t + 1))).q else (atS l (posF l (t + 1) - 1)).q⟩
def pntV (t : Int) : Option Pnt → Value
  | none => .agg #[.int .i64 0, .int .i64 0, .int .i64 0, .int .i64 0]
  | some p => .agg #[.int .i64 t, .int .i64 p.n, .int .i64 p.d, .int .i64 p.q]

/-- What valueAt keeps. -/
structure VK (w0 : World) (v : Value) (l : List Smp) (w : World) : Prop where
  b : Blk w w0.heap.size 37 #[.int .i64 0, .int .i64 0, .int .i64 0, .int .i64 0]
  rd : RdS w 57 v l
  be : Below w0.heap.size w0 w
theorem VK.step {w0 w w' : World} {v : Value} {l : List Smp} (hb : Below w.heap.size w w') (h : VK w0 v l w) : VK w0 v l w' :=
  ⟨h.b.below hb h.b.lt, h.rd.below hb (Nat.le_refl _), h.be.trans (hb.mono h.be.size)⟩
theorem VK.start (w : World) (v : Value) (l : List Smp) (h : RdS w 57 v l) :
    VK w v l (w.alloc (.cells #[.int .i64 0, .int .i64 0, .int .i64 0, .int .i64 0] 37)) :=
  ⟨Blk.new w _ _, Rd.alloc h _, (Below.refl _ w).alloc (Nat.le_refl _) _⟩

/-- And the boxes of the sample and of the point. -/
structure VB (w0 : World) (v : Value) (l : List Smp) (t : Int) (P : Smp) (n : Nat) (w : World) : Prop where
  k : VK w0 v l w
  p : Blk w n 57 #[.int .i64 P.t, .int .i64 P.v, .int .i64 P.q]
  x : Blk w (n + 1) 37 #[.int .i64 t, .int .i64 P.v, .int .i64 1, .int .i64 P.q]
theorem VB.step {w0 w w' : World} {v : Value} {l : List Smp} {t : Int} {P : Smp} {n : Nat} (hb : Below w.heap.size w w') (h : VB w0 v l t P n w) : VB w0 v l t P n w' :=
  ⟨VK.step hb h.k, h.p.below hb h.p.lt, h.x.below hb h.x.lt⟩
theorem VB.stored {w0 w : World} {v : Value} {l : List Smp} {t : Int} {P : Smp} {n : Nat} (h : VB w0 v l t P n w) (u u' : Value) :
    RdS ((w.setCell ⟨n + 1, 1, none⟩ u).setCell ⟨n + 1, 2, none⟩ u') 57 v l ∧ Blk ((w.setCell ⟨n + 1, 1, none⟩ u).setCell ⟨n + 1, 2, none⟩ u') n 57 #[.int .i64 P.t, .int .i64 P.v, .int .i64 P.q] := by
  obtain ⟨cs, h3⟩ := h.x.setSame (i := 1) u
  exact ⟨Rd.setCell (Rd.setCell h.k.rd _ _ (h.x.no (by decide))) _ _ (h3.no (by decide)), (h.p.setOther (by simp) _).setOther (by simp) _⟩
theorem VB.drew {w0 w : World} {v : Value} {l : List Smp} {t : Int} {P : Smp} {n : Nat} (h : VB w0 v l t P n w) : VB w0 v l t P n w.drew :=
  VB.step (show Below w.heap.size w w.drew from ⟨rfl, rfl, rfl, Nat.le_refl _, fun _ _ => rfl⟩) h

theorem ptSet2 {w : World} {n : Nat} {T : TypeId} {a b c d : Value} (h : Blk w n T #[a, b, c, d]) (u u' : Value) : Blk ((w.setCell ⟨n, 1, none⟩ u).setCell ⟨n, 2, none⟩ u') n T #[a, u, u', d] := by
  unfold Blk at h ⊢
  simp [World.setCell, Array.getElem?_modify, h]
theorem ptSet3 {w : World} {n : Nat} {T : TypeId} {a b c d : Value} (h : Blk w n T #[a, b, c, d]) (u : Value) : Blk (w.setCell ⟨n, 3, none⟩ u) n T #[a, b, c, u] := by
  unfold Blk at h ⊢
  simp [World.setCell, Array.getElem?_modify, h]

set_option maxRecDepth 100000 in
set_option maxHeartbeats 4000000 in
theorem valueAt_any (v : Value) (l : List Smp) (st : Bool) (t : Int) (w : World) (hR : RdS w 57 v l) (hS : Rise none l) (hlong : l.length ≤ 5000) (hr : ∀ i, i < l.length → Right (atS l i)) (ht : 0 ≤ t ∧ t ≤ 345686400000) :
    Calls Try.prog 55 #[v, .bool st, .int .i64 t] w fun e w' => e = .returned (.tuple #[pntV t (valO l st t), .bool (valO l st t).isSome]) ∧ Below w.heap.size w w' := by
  obtain ⟨pa, ca, rfl⟩ := hR.lenv
  have hdef : valO l st t = if posF l (t + 1) = 0 then none
    else if st = true ∨ (atS l (posF l (t + 1) - 1)).t = t ∨ (atS l (posF l (t + 1) - 1)).q = 2 ∨ posF l (t + 1) = l.length ∨ (atS l (posF l (t + 1))).q = 2 then
      some ⟨(atS l (posF l (t + 1) - 1)).v, 1, (atS l (posF l (t + 1) - 1)).q⟩
    else some ⟨(lineAt (atS l (posF l (t + 1) - 1)) (atS l (posF l (t + 1))) t).1, (lineAt (atS l (posF l (t + 1) - 1)) (atS l (posF l (t + 1))) t).2, if (atS l (posF l (t + 1) - 1)).q < (atS l (posF l (t + 1))).q then (atS l (posF l (t + 1))).q else (atS l (posF l (t + 1) - 1)).q⟩ := rfl
  have hk0 := VK.start w (.slice pa l.length ca) l hR
  have hps := position_any (.slice pa l.length ca) l (t + 1) _ hk0.rd hS hlong
  have hpl := posF_le l (t + 1)
  have hpa := pos_around l (t + 1) hS
  generalize valO l st t = O at *
  generalize posF l (t + 1) = p at *
  have HDEF := Lib.hid hdef
  have HPS := Lib.hid hps
  have HK0 := Lib.hid hk0
  have HPA := Lib.hid hpa
  have HRR := Lib.hid hr
  clear hdef hps hk0 hpa hr hR hS
  go_enter Try.func55, Try.ntmps55
  go_wp2_with fail
  refine HPS.out.mono ?_
  rintro e w1 ⟨rfl, hb1⟩
  have hk := VK.step hb1 HK0.out
  clear HK0 HPS hb1
  have r0 : w1.cell? ⟨w.heap.size, 0, none⟩ = some (.int .i64 0) := hk.b.cell 0
  have r1 : w1.cell? ⟨w.heap.size, 1, none⟩ = some (.int .i64 0) := hk.b.cell 1
  have r2 : w1.cell? ⟨w.heap.size, 2, none⟩ = some (.int .i64 0) := hk.b.cell 2
  have r3 : w1.cell? ⟨w.heap.size, 3, none⟩ = some (.int .i64 0) := hk.b.cell 3
  have g0 : w1.frozen? ⟨w.heap.size, 0, none⟩ = false := hk.b.frozen 0
  have g1 : w1.frozen? ⟨w.heap.size, 1, none⟩ = false := hk.b.frozen 1
  have g2 : w1.frozen? ⟨w.heap.size, 2, none⟩ = false := hk.b.frozen 2
  have g3 : w1.frozen? ⟨w.heap.size, 3, none⟩ = false := hk.b.frozen 3
  have hz := hk.b.lt
  have hbl := hk.be
  by_cases hp0 : p = 0
  · have hO : O = none := by rw [HDEF.out, if_pos hp0]
    subst hO
    subst hp0
    go_wp2_with fail
    refine bodyPost_ret (v := .tuple #[pntV t none, .bool false]) (by simp [results, Try.results55, go_sem, r0, r1, r2, r3, pntV]) rfl ⟨rfl, ?_⟩
    exact hbl.trans (by (repeat (refine Below.setCell ?_ (by exact Nat.le_refl _) _)); exact Below.refl _ _)
  · have hp0' : ((p : Int) == 0) = false := by simp; omega
    obtain ⟨b, off, c, hv, hc1, hc2, hblt, hcell⟩ := RdS.at_ hk.rd (by omega)
    cases hv
    unfold maxLen at hc2
    obtain ⟨c0, c1, c2⟩ := hcell (p - 1) (by omega)
    have j1 : (0 : Int) ≤ (p : Int) - 1 := by omega
    have j2 : (p : Int) - 1 < (l.length : Int) := by omega
    have j3 : ((p : Int) - 1).toNat = p - 1 := by omega
    have hz1 : w.heap.size < w1.heap.size + 1 := by omega
    have hkb : VB w (.slice (some ⟨b, off, none⟩) l.length ca) l t (atS l (p - 1)) w1.heap.size ((w1.alloc (.cells #[.int .i64 (atS l (p - 1)).t, .int .i64 (atS l (p - 1)).v, .int .i64 (atS l (p - 1)).q] 57)).alloc (.cells #[.int .i64 t, .int .i64 (atS l (p - 1)).v, .int .i64 1, .int .i64 (atS l (p - 1)).q] 37)) :=
      ⟨VK.step ((Below.refl _ _).alloc (Nat.le_refl _) _) (VK.step ((Below.refl _ _).alloc (Nat.le_refl _) _) hk), (Blk.new _ _ _).alloc _, Blk.new1 _ _ _ _⟩
    have i1 : (0 : Int) ≤ (p : Int) := by omega
    have hO1 := HDEF.out
    rw [if_neg hp0] at hO1
    have HP := Lib.hid (show atS l (p - 1) = atS l (p - 1) from rfl)
    have HO1 := Lib.hid hO1
    have hrp := HRR.out (p - 1) (by omega)
    have hrx := fun h : p < l.length => HRR.out p h
    have hlp := HPA.out.1 (p - 1) (by omega) (by omega)
    have hlx := HPA.out.2
    clear hO1 HDEF HRR HPA r0 r1 r2 r3 g0 g1 g2 g3 hcell hk
    generalize hPe : atS l (p - 1) = P at *
    generalize hXe : atS l p = X at *
    have HPE := Lib.hid hPe
    have HXE := Lib.hid hXe
    clear hPe hXe HP
    go_upto_region 6 with fail
    generalize (w1.alloc (.cells #[.int .i64 P.t, .int .i64 P.v, .int .i64 P.q] 57)).alloc (.cells #[.int .i64 t, .int .i64 P.v, .int .i64 1, .int .i64 P.q] 37) = W2 at *
    have hne : ¬ w1.heap.size = w.heap.size := by omega
    have hne2 : ¬ w1.heap.size + 1 = w.heap.size := by omega
    clear c0 c1 c2 hbl hblt hz1
    generalize w1.heap.size = n at *
    have r0 : W2.cell? ⟨w.heap.size, 0, none⟩ = some (.int .i64 0) := hkb.k.b.cell 0
    have r1 : W2.cell? ⟨w.heap.size, 1, none⟩ = some (.int .i64 0) := hkb.k.b.cell 1
    have r2 : W2.cell? ⟨w.heap.size, 2, none⟩ = some (.int .i64 0) := hkb.k.b.cell 2
    have r3 : W2.cell? ⟨w.heap.size, 3, none⟩ = some (.int .i64 0) := hkb.k.b.cell 3
    have g0 : W2.frozen? ⟨w.heap.size, 0, none⟩ = false := hkb.k.b.frozen 0
    have g1 : W2.frozen? ⟨w.heap.size, 1, none⟩ = false := hkb.k.b.frozen 1
    have g2 : W2.frozen? ⟨w.heap.size, 2, none⟩ = false := hkb.k.b.frozen 2
    have g3 : W2.frozen? ⟨w.heap.size, 3, none⟩ = false := hkb.k.b.frozen 3
    have p0 : W2.cell? ⟨n, 0, none⟩ = some (.int .i64 P.t) := hkb.p.cell 0
    have p1 : W2.cell? ⟨n, 1, none⟩ = some (.int .i64 P.v) := hkb.p.cell 1
    have p2 : W2.cell? ⟨n, 2, none⟩ = some (.int .i64 P.q) := hkb.p.cell 2
    have x0 : W2.cell? ⟨n + 1, 0, none⟩ = some (.int .i64 t) := hkb.x.cell 0
    have x1 : W2.cell? ⟨n + 1, 1, none⟩ = some (.int .i64 P.v) := hkb.x.cell 1
    have x2 : W2.cell? ⟨n + 1, 2, none⟩ = some (.int .i64 1) := hkb.x.cell 2
    have x3 : W2.cell? ⟨n + 1, 3, none⟩ = some (.int .i64 P.q) := hkb.x.cell 3
    have hbe := hkb.k.be
    by_cases hs : st = true ∨ P.t = t ∨ P.q = 2 ∨ p = l.length ∨ X.q = 2
    · have HO := Lib.hid (show O = some ⟨P.v, 1, P.q⟩ by rw [HO1.out, if_pos hs])
      have HS := Lib.hid hs
      clear hs hrx hlx hrp hlp HO1
      cases st
      · by_cases ht1 : P.t = t
        · have ht1' : (P.t == t) = true := by simpa using ht1
          clear ht1 hkb
          go_wp2_with fail
          refine bodyPost_ret (v := .tuple #[pntV t (some ⟨P.v, 1, P.q⟩), .bool true]) (by simp [results, Try.results55, go_sem, r0, r1, r2, r3, pntV]) rfl ⟨by rw [HO.out]; rfl, ?_⟩
          exact hbe.trans (by (repeat (refine Below.setCell ?_ (by exact Nat.le_refl _) _)); exact Below.refl _ _)
        · have ht1' : (P.t == t) = false := by simpa using ht1
          by_cases hq1 : P.q = 2
          · have hq1' : (P.q == 2) = true := by simpa using hq1
            clear ht1 hq1 hkb
            go_wp2_with fail
            refine bodyPost_ret (v := .tuple #[pntV t (some ⟨P.v, 1, P.q⟩), .bool true]) (by simp [results, Try.results55, go_sem, r0, r1, r2, r3, pntV]) rfl ⟨by rw [HO.out]; rfl, ?_⟩
            exact hbe.trans (by (repeat (refine Below.setCell ?_ (by exact Nat.le_refl _) _)); exact Below.refl _ _)
          · have hq1' : (P.q == 2) = false := by simpa using hq1
            by_cases hpn : p = l.length
            · have hpn' : ((p : Int) == (l.length : Int)) = true := by simp; omega
              clear ht1 hq1 hpn hkb
              go_wp2_with fail
              refine bodyPost_ret (v := .tuple #[pntV t (some ⟨P.v, 1, P.q⟩), .bool true]) (by simp [results, Try.results55, go_sem, r0, r1, r2, r3, pntV]) rfl ⟨by rw [HO.out]; rfl, ?_⟩
              exact hbe.trans (by (repeat (refine Below.setCell ?_ (by exact Nat.le_refl _) _)); exact Below.refl _ _)
            · have hpn' : ((p : Int) == (l.length : Int)) = false := by simp; omega
              have hxq : X.q = 2 := by
                rcases HS.out with h | h | h | h | h
                · cases h
                · exact absurd h ht1
                · exact absurd h hq1
                · exact absurd h hpn
                · exact h
              have hxq' : (X.q == 2) = true := by simpa using hxq
              have hplt : (p : Int) < (l.length : Int) := by omega
              have n2 : W2.cell? ⟨b, off + p * 3 + 2, none⟩ = some (.int .i64 X.q) := by rw [← HXE.out]; exact (hkb.k.rd.atv p (by omega)).2.2.1
              clear ht1 hq1 hpn hkb hxq
              go_wp2_with fail
              refine bodyPost_ret (v := .tuple #[pntV t (some ⟨P.v, 1, P.q⟩), .bool true]) (by simp [results, Try.results55, go_sem, r0, r1, r2, r3, pntV]) rfl ⟨by rw [HO.out]; rfl, ?_⟩
              exact hbe.trans (by (repeat (refine Below.setCell ?_ (by exact Nat.le_refl _) _)); exact Below.refl _ _)
      · clear hkb
        go_wp2_with fail
        refine bodyPost_ret (v := .tuple #[pntV t (some ⟨P.v, 1, P.q⟩), .bool true]) (by simp [results, Try.results55, go_sem, r0, r1, r2, r3, pntV]) rfl ⟨by rw [HO.out]; rfl, ?_⟩
        exact hbe.trans (by (repeat (refine Below.setCell ?_ (by exact Nat.le_refl _) _)); exact Below.refl _ _)
    · have hst : st = false := by cases st; · rfl
                                  · exact absurd (.inl rfl) hs
      have ht1' : (P.t == t) = false := by simpa using fun h => hs (.inr (.inl h))
      have hq1' : (P.q == 2) = false := by simpa using fun h => hs (.inr (.inr (.inl h)))
      have hpn : ¬ p = l.length := fun h => hs (.inr (.inr (.inr (.inl h))))
      have hpn' : ((p : Int) == (l.length : Int)) = false := by simp; omega
      have hxq' : (X.q == 2) = false := by simpa using fun h => hs (.inr (.inr (.inr (.inr h))))
      have hplt : (p : Int) < (l.length : Int) := by omega
      have HO := Lib.hid (show O = some ⟨(lineAt P X t).1, (lineAt P X t).2, if P.q < X.q then X.q else P.q⟩ by rw [HO1.out, if_neg hs])
      have hon := fun w => onLine_any P X t w hrp (hrx (by omega)) (by have := hlx (by omega); omega) (by have := hlx (by omega); omega)
      have hat : ∀ w', RdS w' 57 (.slice (some ⟨b, off, none⟩) l.length ca) l → Blk w' n 57 #[.int .i64 P.t, .int .i64 P.v, .int .i64 P.q] → w'.cell? ⟨b, off + p * 3, none⟩ = some (.int .i64 X.t) ∧ w'.cell? ⟨b, off + p * 3 + 1, none⟩ = some (.int .i64 X.v) ∧ w'.cell? ⟨b, off + p * 3 + 2, none⟩ = some (.int .i64 X.q) ∧ w'.cell? ⟨n, 0, none⟩ = some (.int .i64 P.t) ∧ w'.cell? ⟨n, 1, none⟩ = some (.int .i64 P.v) ∧ w'.cell? ⟨n, 2, none⟩ = some (.int .i64 P.q) := fun w' h hp => by
        have h1 := h.atv p (by omega)
        rw [HXE.out] at h1
        exact ⟨h1.1, h1.2.1, h1.2.2.1, hp.cell 0, hp.cell 1, hp.cell 2⟩
      have HAT := Lib.hid hat
      have HON := Lib.hid hon
      generalize lineAt P X t = V at *
      subst hst
      obtain ⟨n0, n1, n2, _⟩ := hat _ hkb.k.rd hkb.p
      clear hs HO1 hrp hrx hlp hlx hpn hat hon
      go_upto_region 8 with fail
      go_region_held3 (fun w' => w'.cell? ⟨b, off + p * 3, none⟩ = some (.int .i64 X.t) ∧ w'.cell? ⟨b, off + p * 3 + 1, none⟩ = some (.int .i64 X.v) ∧ w'.cell? ⟨b, off + p * 3 + 2, none⟩ = some (.int .i64 X.q) ∧ w'.cell? ⟨n, 0, none⟩ = some (.int .i64 P.t) ∧ w'.cell? ⟨n, 1, none⟩ = some (.int .i64 P.v) ∧ w'.cell? ⟨n, 2, none⟩ = some (.int .i64 P.q))
        (first | exact HAT.out _ hkk.k.rd hkk.p | exact HAT.out _ hkb.k.rd hkb.p | exact HAT.out _ (hkk.stored _ _).1 (hkk.stored _ _).2 | go_keep)
        (first | (go_at_call 101; refine (HON.out _).mono ?_; rintro e wk ⟨rfl, hbk⟩; have hkk := VB.step hbk (by first | assumption | exact VB.drew (by assumption)); have t0 : wk.frozen? ⟨n + 1, 1, none⟩ = false := hkk.x.frozen 1; have t1 : wk.frozen? ⟨n + 1, 2, none⟩ = false := hkk.x.frozen 2; have t2 : wk.cell? ⟨n + 1, 1, none⟩ = some (.int .i64 P.v) := hkk.x.cell 1; have t3 : wk.cell? ⟨n + 1, 2, none⟩ = some (.int .i64 1) := hkk.x.cell 2; clear hbk))
      go_upto_region 9 with fail
      have hbk := hkk.k.be
      have hsr := hkk.stored (.int .i64 V.1) (.int .i64 V.2)
      have hx3 : Blk ((wk.setCell ⟨n + 1, 1, none⟩ (.int .i64 V.1)).setCell ⟨n + 1, 2, none⟩ (.int .i64 V.2)) (n + 1) 37 #[.int .i64 t, .int .i64 V.1, .int .i64 V.2, .int .i64 P.q] := ptSet2 hkk.x _ _
      have hb3 : Blk ((wk.setCell ⟨n + 1, 1, none⟩ (.int .i64 V.1)).setCell ⟨n + 1, 2, none⟩ (.int .i64 V.2)) w.heap.size 37 #[.int .i64 0, .int .i64 0, .int .i64 0, .int .i64 0] := (hkk.k.b.setOther (by simp; omega) _).setOther (by simp; omega) _
      have hbe3 : Below w.heap.size w ((wk.setCell ⟨n + 1, 1, none⟩ (.int .i64 V.1)).setCell ⟨n + 1, 2, none⟩ (.int .i64 V.2)) := (hbk.setCell (by simp; omega) _).setCell (by simp; omega) _
      obtain ⟨m0, m1, m2, q0, q1, q2⟩ := HAT.out _ hsr.1 hsr.2
      clear hkk t0 t1 t2 t3 hbk hsr
      generalize (wk.setCell ⟨n + 1, 1, none⟩ (.int .i64 V.1)).setCell ⟨n + 1, 2, none⟩ (.int .i64 V.2) = w5 at *
      have f3 : w5.frozen? ⟨n + 1, 3, none⟩ = false := hx3.frozen 3
      have y0 : w5.cell? ⟨n + 1, 0, none⟩ = some (.int .i64 t) := hx3.cell 0
      have y1 : w5.cell? ⟨n + 1, 1, none⟩ = some (.int .i64 V.1) := hx3.cell 1
      have y2 : w5.cell? ⟨n + 1, 2, none⟩ = some (.int .i64 V.2) := hx3.cell 2
      have y3 : w5.cell? ⟨n + 1, 3, none⟩ = some (.int .i64 P.q) := hx3.cell 3
      clear r0 r1 r2 r3 g0 g1 g2 g3 p0 p1 p2 x0 x1 x2 x3 hbe n0 n1 n2
      go_region
      clear y0 y1 y2 y3 f3
      generalize hQ : (if P.q < X.q then X.q else P.q) = Q at *
      have HQ := Lib.hid hQ
      clear hQ
      have hx4 : Blk (w5.setCell ⟨n + 1, 3, none⟩ (.int .i64 Q)).drew (n + 1) 37 #[.int .i64 t, .int .i64 V.1, .int .i64 V.2, .int .i64 Q] := ptSet3 hx3 _
      have hb4 : Blk (w5.setCell ⟨n + 1, 3, none⟩ (.int .i64 Q)).drew w.heap.size 37 #[.int .i64 0, .int .i64 0, .int .i64 0, .int .i64 0] := hb3.setOther (by simp; omega) _
      have hbe4 : Below w.heap.size w (w5.setCell ⟨n + 1, 3, none⟩ (.int .i64 Q)).drew := (hbe3.setCell (by simp; omega) _).drew
      generalize (w5.setCell ⟨n + 1, 3, none⟩ (.int .i64 Q)).drew = w6 at *
      have y0 : w6.cell? ⟨n + 1, 0, none⟩ = some (.int .i64 t) := hx4.cell 0
      have y1 : w6.cell? ⟨n + 1, 1, none⟩ = some (.int .i64 V.1) := hx4.cell 1
      have y2 : w6.cell? ⟨n + 1, 2, none⟩ = some (.int .i64 V.2) := hx4.cell 2
      have y3 : w6.cell? ⟨n + 1, 3, none⟩ = some (.int .i64 Q) := hx4.cell 3
      have r0 : w6.cell? ⟨w.heap.size, 0, none⟩ = some (.int .i64 0) := hb4.cell 0
      have r1 : w6.cell? ⟨w.heap.size, 1, none⟩ = some (.int .i64 0) := hb4.cell 1
      have r2 : w6.cell? ⟨w.heap.size, 2, none⟩ = some (.int .i64 0) := hb4.cell 2
      have r3 : w6.cell? ⟨w.heap.size, 3, none⟩ = some (.int .i64 0) := hb4.cell 3
      have g0 : w6.frozen? ⟨w.heap.size, 0, none⟩ = false := hb4.frozen 0
      have g1 : w6.frozen? ⟨w.heap.size, 1, none⟩ = false := hb4.frozen 1
      have g2 : w6.frozen? ⟨w.heap.size, 2, none⟩ = false := hb4.frozen 2
      have g3 : w6.frozen? ⟨w.heap.size, 3, none⟩ = false := hb4.frozen 3
      go_wp2_with fail
      refine bodyPost_ret (v := .tuple #[pntV t (some ⟨V.1, V.2, Q⟩), .bool true]) (by simp [results, Try.results55, go_sem, r0, r1, r2, r3, pntV]) rfl ⟨by rw [HO.out]; rfl, ?_⟩
      exact hbe4.trans (by (repeat (refine Below.setCell ?_ (by exact Nat.le_refl _) _)); exact Below.refl _ _)

theorem pntV_agg (t : Int) (O : Option Pnt) : ∃ a b c d : Int, pntV t O = .agg #[.int .i64 a, .int .i64 b, .int .i64 c, .int .i64 d] := by
  cases O with
  | none => exact ⟨0, 0, 0, 0, rfl⟩
  | some p => exact ⟨t, p.n, p.d, p.q, rfl⟩
def vatE (l : List Smp) (t : Int) : Int := if serErr l ≠ 0 then serErr l else if inB t 0 345686399999 = false then 1 else 0
def vatO (l : List Smp) (st : Bool) (t : Int) : Option Pnt := if vatE l t = 0 then valO l st t else none

set_option maxRecDepth 100000 in
set_option maxHeartbeats 4000000 in
theorem publicValueAt_any (v : Value) (l : List Smp) (st : Bool) (t : Int) (w : World) (hR : RdS w 57 v l) :
    Calls Try.prog 16 #[v, .bool st, .int .i64 t] w fun e w' => e = .returned (.tuple #[pntV t (vatO l st t), .bool (vatO l st t).isSome, .int .i64 (vatE l t)]) ∧ Below w.heap.size w w' := by
  have hE : vatE l t = if serErr l ≠ 0 then serErr l else if inB t 0 345686399999 = false then 1 else 0 := rfl
  have hO : vatO l st t = if vatE l t = 0 then valO l st t else none := rfl
  generalize vatO l st t = O at *
  generalize vatE l t = E at *
  have HE := Lib.hid hE
  have HO := Lib.hid hO
  have hk0 := VK.start w v l hR
  have HK0 := Lib.hid hk0
  clear hE hO hR hk0
  go_enter Try.func16, Try.ntmps16
  go_wp2_with fail
  refine (checkSeries_any v l _ HK0.out.rd).mono ?_
  rintro e w1 ⟨rfl, hb1⟩
  have hk := VK.step hb1 HK0.out
  clear HK0 hb1
  have r0 : w1.cell? ⟨w.heap.size, 0, none⟩ = some (.int .i64 0) := hk.b.cell 0
  have r1 : w1.cell? ⟨w.heap.size, 1, none⟩ = some (.int .i64 0) := hk.b.cell 1
  have r2 : w1.cell? ⟨w.heap.size, 2, none⟩ = some (.int .i64 0) := hk.b.cell 2
  have r3 : w1.cell? ⟨w.heap.size, 3, none⟩ = some (.int .i64 0) := hk.b.cell 3
  have g0 : w1.frozen? ⟨w.heap.size, 0, none⟩ = false := hk.b.frozen 0
  have g1 : w1.frozen? ⟨w.heap.size, 1, none⟩ = false := hk.b.frozen 1
  have g2 : w1.frozen? ⟨w.heap.size, 2, none⟩ = false := hk.b.frozen 2
  have g3 : w1.frozen? ⟨w.heap.size, 3, none⟩ = false := hk.b.frozen 3
  have hz := hk.b.lt
  have hbl := hk.be
  by_cases hS : serErr l = 0
  · have hS' : (serErr l != 0) = false := by simpa using hS
    have HS := Lib.hid hS
    clear hS
    go_wp2_with fail
    refine (moment_any t _).mono ?_
    rintro e w2 ⟨rfl, rfl⟩
    cases hT : inB t 0 345686399999
    · have hE1 : E = 1 := by rw [HE.out, if_neg (by rw [HS.out]; simp), if_pos hT]
      have HE1 := Lib.hid hE1
      clear hT hE1
      go_wp2_with fail
      refine bodyPost_ret (v := .tuple #[pntV t none, .bool false, .int .i64 1]) (by simp [results, Try.results16, go_sem, r0, r1, r2, r3, pntV]) rfl ⟨by rw [HO.out, if_neg (by rw [HE1.out]; omega), HE1.out]; rfl, ?_⟩
      exact hbl.trans (by (repeat (refine Below.setCell ?_ (by exact Nat.le_refl _) _)); exact Below.refl _ _)
    · have hE1 : E = 0 := by rw [HE.out, if_neg (by rw [HS.out]; simp), if_neg (by rw [hT]; simp)]
      have HE1 := Lib.hid hE1
      have hO1 : O = valO l st t := by rw [HO.out, if_pos hE1]
      have HO1 := Lib.hid hO1
      have hTT := inB_true.1 hT
      have hva := valueAt_any v l st t w1 hk.rd (serErr_rise HS.out) (serErr_good HS.out).1 (fun i _ => ⟨(serErr_vt HS.out i).2, (serErr_vt HS.out i).1⟩) (by omega)
      rw [← hO1] at hva
      obtain ⟨a, b', c, d, hp⟩ := pntV_agg t O
      rw [hp] at hva
      have HP := Lib.hid hp
      have HVA := Lib.hid hva
      clear hT hE1 hO1 hp hva
      go_wp2_with fail
      refine HVA.out.mono ?_
      rintro e w3 ⟨rfl, hb3⟩
      have hk3 := VK.step hb3 hk
      have hz3 := hk3.b.lt
      have hb4 : Blk (w3.alloc (.cells #[.int .i64 a, .int .i64 b', .int .i64 c, .int .i64 d] 37)) w.heap.size 37 #[.int .i64 0, .int .i64 0, .int .i64 0, .int .i64 0] := hk3.b.alloc _
      have hx4 := Blk.new w3 37 #[.int .i64 a, .int .i64 b', .int .i64 c, .int .i64 d]
      have hbe4 := hk3.be.alloc hk3.be.size (.cells #[.int .i64 a, .int .i64 b', .int .i64 c, .int .i64 d] 37)
      clear hb3 r0 r1 r2 r3 g0 g1 g2 g3 hk hbl hk3
      go_upto_region 7 with fail
      have hne : ¬ w3.heap.size = w.heap.size := by omega
      generalize w3.alloc (.cells #[.int .i64 a, .int .i64 b', .int .i64 c, .int .i64 d] 37) = w6 at *
      generalize w3.heap.size = n at *
      have y0 : w6.cell? ⟨n, 0, none⟩ = some (.int .i64 a) := hx4.cell 0
      have y1 : w6.cell? ⟨n, 1, none⟩ = some (.int .i64 b') := hx4.cell 1
      have y2 : w6.cell? ⟨n, 2, none⟩ = some (.int .i64 c) := hx4.cell 2
      have y3 : w6.cell? ⟨n, 3, none⟩ = some (.int .i64 d) := hx4.cell 3
      have r0 : w6.cell? ⟨w.heap.size, 0, none⟩ = some (.int .i64 0) := hb4.cell 0
      have r1 : w6.cell? ⟨w.heap.size, 1, none⟩ = some (.int .i64 0) := hb4.cell 1
      have r2 : w6.cell? ⟨w.heap.size, 2, none⟩ = some (.int .i64 0) := hb4.cell 2
      have r3 : w6.cell? ⟨w.heap.size, 3, none⟩ = some (.int .i64 0) := hb4.cell 3
      have g0 : w6.frozen? ⟨w.heap.size, 0, none⟩ = false := hb4.frozen 0
      have g1 : w6.frozen? ⟨w.heap.size, 1, none⟩ = false := hb4.frozen 1
      have g2 : w6.frozen? ⟨w.heap.size, 2, none⟩ = false := hb4.frozen 2
      have g3 : w6.frozen? ⟨w.heap.size, 3, none⟩ = false := hb4.frozen 3
      go_wp2_with fail
      refine bodyPost_ret (v := .tuple #[.agg #[.int .i64 a, .int .i64 b', .int .i64 c, .int .i64 d], .bool O.isSome, .int .i64 0]) (by simp [results, Try.results16, go_sem, r0, r1, r2, r3]) rfl ⟨by rw [HP.out, HE1.out], ?_⟩
      exact hbe4.trans (by (repeat (refine Below.setCell ?_ (by exact Nat.le_refl _) _)); exact Below.refl _ _)
  · have hS' : (serErr l != 0) = true := by simpa using hS
    have hE1 : E = serErr l := by rw [HE.out, if_pos hS]
    have HS := Lib.hid hS
    have HE1 := Lib.hid hE1
    clear hS hE1
    go_wp2_with fail
    refine bodyPost_ret (v := .tuple #[pntV t none, .bool false, .int .i64 (serErr l)]) (by simp [results, Try.results16, go_sem, r0, r1, r2, r3, pntV]) rfl ⟨by rw [HO.out, if_neg (by rw [HE1.out]; exact HS.out), HE1.out]; rfl, ?_⟩
    exact hbl.trans (by (repeat (refine Below.setCell ?_ (by exact Nat.le_refl _) _)); exact Below.refl _ _)
end Go.Proofs.Ytmcojidaimeijaa

/- The contracts of the checks of kept indices: checkKept (package compress), and the reference's IndicesFault. -/

namespace Go.Proofs.Ytmcojidaimeijaa
open Go.RowKit
set_option linter.unusedVariables false
set_option linter.unusedSimpArgs false

/-- What is wrong with indices of n samples, the one before them given. -/
def idxFrom (n : Nat) : Option Int → List Int → Int
  | _, [] => 0
  | p, k :: r => if inB k 0 ((n : Int) - 1) = false then 1 else if notAfter p k = true then 7 else idxFrom n (some k) r
def idxErr (n : Nat) (ks : List Int) : Int := if n < ks.length then 2 else idxFrom n none ks
def keptErr (l : List Smp) (ks : List Int) : Int := if serErr l ≠ 0 then serErr l else idxErr l.length ks
def prevI (ks : List Int) (j : Nat) : Option Int := if j = 0 then none else ks[j - 1]?
theorem idxFrom_step (n : Nat) (ks : List Int) (j : Nat) (h : j < ks.length) :
    idxFrom n (prevI ks j) (ks.drop j) = if inB ks[j] 0 ((n : Int) - 1) = false then 1 else if notAfter (prevI ks j) ks[j] = true then 7 else idxFrom n (prevI ks (j + 1)) (ks.drop (j + 1)) := by
  rw [List.drop_eq_getElem_cons h]
  simp only [idxFrom]
  have : prevI ks (j + 1) = some ks[j] := by simp [prevI, h]
  rw [this]
theorem idxFrom_end (n : Nat) (ks : List Int) : idxFrom n (prevI ks ks.length) (ks.drop ks.length) = 0 := by simp [idxFrom]

theorem RdI.lenv {w : World} {v : Value} {l : List Int} (h : RdI w v l) : ∃ pa ca, v = .slice pa l.length ca := by obtain ⟨_, pa, ca, rfl, _⟩ := h; exact ⟨pa, ca, rfl⟩
theorem RdI.below {w w' : World} {v : Value} {l : List Int} {B : Nat} (h : RdI w v l) (hb : Below B w w') (hB : w.heap.size ≤ B) : RdI w' v l := Rd.below h (hb.mono hB)

set_option maxRecDepth 100000 in
set_option maxHeartbeats 2000000 in
theorem checkKept_any (v vk : Value) (l : List Smp) (ks : List Int) (w : World) (hR : RdS w 57 v l) (hK : RdI w vk ks) (hks : ks.length ≤ 100000) :
    Calls Try.prog 52 #[v, vk] w fun e w' => e = .returned (.int .i64 (keptErr l ks)) ∧ Below w.heap.size w w' := by
  have hdef : keptErr l ks = if serErr l ≠ 0 then serErr l else idxErr l.length ks := rfl
  have hidx : idxErr l.length ks = if l.length < ks.length then 2 else idxFrom l.length none ks := rfl
  generalize keptErr l ks = E at *
  generalize idxErr l.length ks = J at *
  have HD := Lib.hid hdef
  have HI := Lib.hid hidx
  obtain ⟨pa, ca, rfl⟩ := hR.lenv
  obtain ⟨pk, ck, rfl⟩ := hK.lenv
  have HK := Lib.hid hK
  have HSE := Lib.hid (checkSeries_any _ l w hR)
  have hge := @serErr_good l
  have HGE := Lib.hid hge
  clear hdef hidx hR hK hge
  go_enter Try.func52, Try.ntmps52
  go_wp2_with fail
  refine HSE.out.mono ?_
  rintro e w1 ⟨rfl, hb1⟩
  by_cases hS : serErr l = 0
  · have hS' : (serErr l != 0) = false := by simpa using hS
    have hlong := (HGE.out hS).1
    have HS := Lib.hid hS
    clear hS
    by_cases hL : l.length < ks.length
    · have HJ := Lib.hid (show J = 2 by rw [HI.out, if_pos hL])
      go_wp2_with fail
      go_ret
      exact ⟨ret_int (by rw [HD.out, if_neg (by rw [HS.out]; simp), HJ.out]), hb1⟩
    · have HJ := Lib.hid (show J = idxFrom l.length none ks by rw [HI.out, if_neg hL])
      have hK1 : RdI w1 _ ks := HK.out.below hb1 (Nat.le_refl _)
      have HK1 := Lib.hid hK1
      have hsz := hb1.size
      have HB1 := Lib.hid hb1
      clear hK1 hb1
      go_wp2_with fail
      go_loop [20] (fun i => ∃ j : Nat, j ≤ ks.length ∧ i = .int .i64 (j : Int) ∧ idxFrom l.length none ks = idxFrom l.length (prevI ks j) (ks.drop j)) (fun i => ks.length - (intOf i).toNat)
      case atStart => exact ⟨0, by omega, rfl, by simp [prevI]⟩
      case round =>
        obtain ⟨j, hj, rfl, hf⟩ := hrel
        have HF := Lib.hid hf
        clear hf
        by_cases hlt : j < ks.length
        · obtain ⟨b, off, c, hv, hc1, hc2, hblt, hcell⟩ := RdI.cells HK1.out (by omega)
          cases hv
          unfold maxLen at hc2
          have c0 := hcell j hlt
          have hstep := idxFrom_step l.length ks j hlt
          have hprev : 0 < j → ∃ y : Int, prevI ks j = some y ∧ w1.cell? ⟨b, off + (j - 1), none⟩ = some (.int .i64 y) := fun hj0 =>
            ⟨ks[j - 1]'(by omega), by unfold prevI; rw [if_neg (by omega)]; exact List.getElem?_eq_getElem (by omega), hcell (j - 1) (by omega)⟩
          have HPREV := Lib.hid hprev
          generalize ks[j] = x at *
          have HSTEP := Lib.hid hstep
          clear hstep hprev hcell
          go_wp2_with fail
          refine (within_any _ _ _ _).mono ?_
          rintro e w' ⟨rfl, rfl⟩
          by_cases hB : inB x 0 ((l.length : Int) - 1) = true
          · have HB := Lib.hid hB
            rw [hB]
            clear hB
            rcases Nat.eq_zero_or_pos j with hj0 | hj0
            · obtain rfl := hj0
              go_wp2_with fail
              go_round
              case rel => exact ⟨1, by omega, rfl, by rw [HF.out, HSTEP.out, if_neg (by simp [HB.out]), if_neg (by simp [prevI, notAfter])]⟩
              case measure => simp [intOf]; omega
            · obtain ⟨y, hpy, hcy⟩ := HPREV.out hj0
              have HPY := Lib.hid hpy
              clear hpy
              have hj0' : (0 : Int) < (j : Int) := by omega
              by_cases hxy : x ≤ y
              · have hxy' : decide (x ≤ y) = true := by simpa using hxy
                go_wp2_with fail
                go_ret
                exact ⟨ret_int (by rw [HD.out, if_neg (by rw [HS.out]; simp), HJ.out, HF.out, HSTEP.out, if_neg (by simp [HB.out]), if_pos (by rw [HPY.out]; exact hxy')]), HB1.out⟩
              · have hxy' : decide (x ≤ y) = false := by simpa using hxy
                go_wp2_with fail
                go_round
                case rel => exact ⟨j + 1, by omega, by go_num, by rw [HF.out, HSTEP.out, if_neg (by simp [HB.out]), if_neg (by rw [HPY.out]; simpa [notAfter] using hxy)]⟩
                case measure => simp [intOf]; omega
          · have hB' : inB x 0 ((l.length : Int) - 1) = false := by simpa using hB
            have HB := Lib.hid hB'
            rw [hB']
            clear hB hB'
            go_wp2_with fail
            go_ret
            exact ⟨ret_int (by rw [HD.out, if_neg (by rw [HS.out]; simp), HJ.out, HF.out, HSTEP.out, if_pos HB.out]), HB1.out⟩
        · obtain rfl : j = ks.length := by omega
          go_wp2_with fail
          go_ret
          exact ⟨ret_int (by rw [HD.out, if_neg (by rw [HS.out]; simp), HJ.out, HF.out, idxFrom_end]), HB1.out⟩
  · have hS' : (serErr l != 0) = true := by simpa using hS
    have HS := Lib.hid hS
    clear hS
    go_wp2_with fail
    go_ret
    exact ⟨ret_int (by rw [HD.out, if_pos HS.out]), hb1⟩

set_option maxRecDepth 100000 in
set_option maxHeartbeats 2000000 in
theorem indicesFault_any (v vk : Value) (l : List Smp) (ks : List Int) (w : World) (hR : RdS w 57 v l) (hK : RdI w vk ks) (hks : ks.length ≤ 100000) (hlong : l.length ≤ 5000) :
    Calls Try.prog 29 #[v, vk] w fun e w' => e = .returned (.int .i64 (idxErr l.length ks)) ∧ w = w' := by
  have hidx : idxErr l.length ks = if l.length < ks.length then 2 else idxFrom l.length none ks := rfl
  generalize idxErr l.length ks = J at *
  have HI := Lib.hid hidx
  obtain ⟨pa, ca, rfl⟩ := hR.lenv
  obtain ⟨pk, ck, rfl⟩ := hK.lenv
  have HK1 := Lib.hid hK
  clear hidx hR hK
  go_enter Try.func29, Try.ntmps29
  by_cases hL : l.length < ks.length
  · have HJ := Lib.hid (show J = 2 by rw [HI.out, if_pos hL])
    go_wp2_with fail
    go_ret
    exact ⟨ret_int HJ.out.symm, rfl⟩
  · have HJ := Lib.hid (show J = idxFrom l.length none ks by rw [HI.out, if_neg hL])
    go_wp2_with fail
    go_loop [14] (fun i => ∃ j : Nat, j ≤ ks.length ∧ i = .int .i64 (j : Int) ∧ idxFrom l.length none ks = idxFrom l.length (prevI ks j) (ks.drop j)) (fun i => ks.length - (intOf i).toNat)
    case atStart => exact ⟨0, by omega, rfl, by simp [prevI]⟩
    case round =>
      obtain ⟨j, hj, rfl, hf⟩ := hrel
      have HF := Lib.hid hf
      clear hf
      by_cases hlt : j < ks.length
      · obtain ⟨b, off, c, hv, hc1, hc2, hblt, hcell⟩ := RdI.cells HK1.out (by omega)
        cases hv
        unfold maxLen at hc2
        have c0 := hcell j hlt
        have hstep := idxFrom_step l.length ks j hlt
        have hprev : 0 < j → ∃ y : Int, prevI ks j = some y ∧ w.cell? ⟨b, off + (j - 1), none⟩ = some (.int .i64 y) := fun hj0 =>
          ⟨ks[j - 1]'(by omega), by unfold prevI; rw [if_neg (by omega)]; exact List.getElem?_eq_getElem (by omega), hcell (j - 1) (by omega)⟩
        have HPREV := Lib.hid hprev
        generalize ks[j] = x at *
        have HSTEP := Lib.hid hstep
        clear hstep hprev hcell
        go_wp2_with fail
        refine (rin_any _ _ _ _).mono ?_
        rintro e w' ⟨rfl, rfl⟩
        by_cases hB : inB x 0 ((l.length : Int) - 1) = true
        · have HB := Lib.hid hB
          rw [hB]
          clear hB
          rcases Nat.eq_zero_or_pos j with hj0 | hj0
          · obtain rfl := hj0
            go_wp2_with fail
            go_round
            case rel => exact ⟨1, by omega, rfl, by rw [HF.out, HSTEP.out, if_neg (by simp [HB.out]), if_neg (by simp [prevI, notAfter])]⟩
            case measure => simp [intOf]; omega
          · obtain ⟨y, hpy, hcy⟩ := HPREV.out hj0
            have HPY := Lib.hid hpy
            clear hpy
            have hj0' : (0 : Int) < (j : Int) := by omega
            by_cases hxy : x ≤ y
            · have hxy' : decide (x ≤ y) = true := by simpa using hxy
              go_wp2_with fail
              go_ret
              exact ⟨ret_int (by rw [HJ.out, HF.out, HSTEP.out, if_neg (by simp [HB.out]), if_pos (by rw [HPY.out]; exact hxy')]), rfl⟩
            · have hxy' : decide (x ≤ y) = false := by simpa using hxy
              go_wp2_with fail
              go_round
              case rel => exact ⟨j + 1, by omega, by go_num, by rw [HF.out, HSTEP.out, if_neg (by simp [HB.out]), if_neg (by rw [HPY.out]; simpa [notAfter] using hxy)]⟩
              case measure => simp [intOf]; omega
        · have hB' : inB x 0 ((l.length : Int) - 1) = false := by simpa using hB
          have HB := Lib.hid hB'
          rw [hB']
          clear hB hB'
          go_wp2_with fail
          go_ret
          exact ⟨ret_int (by rw [HJ.out, HF.out, HSTEP.out, if_pos HB.out]), rfl⟩
      · obtain rfl : j = ks.length := by omega
        go_wp2_with fail
        go_ret
        exact ⟨ret_int (by rw [HJ.out, HF.out, idxFrom_end]), rfl⟩
end Go.Proofs.Ytmcojidaimeijaa

/- What takes the samples with some indices: plain mathematics, and the reference's KeptOf. -/

namespace Go.Proofs.Ytmcojidaimeijaa
open Go.RowKit
set_option linter.unusedVariables false
set_option linter.unusedSimpArgs false

def choOf (l : List Smp) (ks : List Int) : List Smp := ks.map fun k => atS l k.toNat
theorem choOf_length (l : List Smp) (ks : List Int) : (choOf l ks).length = ks.length := by simp [choOf]
/-- All indices are those of samples. -/
def Inside (n : Nat) (ks : List Int) : Prop := ∀ j (h : j < ks.length), 0 ≤ ks[j] ∧ ks[j] < (n : Int)
theorem idxFrom_inside {n : Nat} {p : Option Int} {ks : List Int} (h : idxFrom n p ks = 0) : ∀ k ∈ ks, 0 ≤ k ∧ k < (n : Int) := by
  induction ks generalizing p with
  | nil => simp
  | cons k r ih =>
    simp only [idxFrom] at h
    split at h; · omega
    split at h; · omega
    rename_i h1 h2
    intro x hx
    rcases List.mem_cons.1 hx with rfl | hx
    · have : inB x 0 ((n : Int) - 1) = true := by simpa using h1
      have := inB_true.1 this
      omega
    · exact ih h x hx
theorem idxErr_inside {n : Nat} {ks : List Int} (h : idxErr n ks = 0) : ks.length ≤ n ∧ Inside n ks := by
  unfold idxErr at h
  split at h
  · omega
  · exact ⟨by omega, fun j hj => idxFrom_inside h _ (List.getElem_mem hj)⟩
/-- Indices that rise choose samples whose moments rise. -/
theorem choOf_rise {l : List Smp} (hl : Rise none l) {p : Option Int} {q : Option Int} {ks : List Int} (h : idxFrom l.length p ks = 0) (hq : ∀ t, q = some t → ∃ k, p = some k ∧ 0 ≤ k ∧ k < (l.length : Int) ∧ t = (atS l k.toNat).t) : Rise q (choOf l ks) := by
  induction ks generalizing p q with
  | nil => trivial
  | cons k r ih =>
    simp only [idxFrom] at h
    split at h; · omega
    split at h; · omega
    rename_i h1 h2
    have hin : inB k 0 ((l.length : Int) - 1) = true := by simpa using h1
    have hk := inB_true.1 hin
    refine ⟨fun t ht => ?_, ih h fun t ht => ⟨k, rfl, hk.1, by omega, by cases ht; rfl⟩⟩
    obtain ⟨k', hk', h3, h4, rfl⟩ := hq t ht
    subst hk'
    have h5 : ¬ k ≤ k' := by simpa [notAfter] using h2
    exact rise_ltA hl _ _ (by omega) (by omega)

theorem cellsOf_zero (n i : Nat) (hi : i < n * 3) : (cellsOf (List.replicate n ⟨0, 0, 0⟩))[i]? = some (.int .i64 0) := by
  have h1 := cellsOf_get (List.replicate n ⟨0, 0, 0⟩) (i / 3) (by simp; omega) (i % 3) (by omega)
  rw [show i / 3 * 3 + i % 3 = i by omega] at h1
  rw [h1]
  have h2 : i % 3 = 0 ∨ i % 3 = 1 ∨ i % 3 = 2 := by omega
  rcases h2 with h | h | h <;> simp [h, Smp.cells]
theorem madeSmp (n : Nat) : (madeCells (Value.agg #[.int .i64 0, .int .i64 0, .int .i64 0]).cells (n * 3)).toList = cellsOf (List.replicate n ⟨0, 0, 0⟩) := by
  apply List.ext_getElem?
  intro i
  rcases Nat.lt_or_ge i (n * 3) with hi | hi
  · rw [cellsOf_zero n i hi]
    have h2 : i % 3 = 0 ∨ i % 3 = 1 ∨ i % 3 = 2 := by omega
    rcases h2 with h | h | h <;> simp [madeCells, Value.cells, hi, h]
  · rw [List.getElem?_eq_none (by simp [madeCells]; omega), List.getElem?_eq_none (by rw [cellsOf_length]; simp; omega)]
theorem choOf_get (l : List Smp) (ks : List Int) (j : Nat) (h : j < ks.length) : (choOf l ks)[j]? = some (atS l (ks[j]).toNat) := by simp [choOf, h]
theorem choOf_take (l : List Smp) (ks : List Int) (j : Nat) (h : j < ks.length) : (choOf l ks).take (j + 1) = (choOf l ks).take j ++ [atS l (ks[j]).toNat] := by
  rw [List.take_add_one, choOf_get l ks j h]; rfl

theorem own_putN {w : World} {base g cap n : Nat} {e : TypeId} {l : List Smp} (h : w.ownsRow base e 3 (.slice (some ⟨g, 0, none⟩) n cap) n (cellsOf l)) (hl : l.length = n) (i : Nat) (hi : i < n) (y : Smp) :
    (((w.setCell ⟨g, i * 3, none⟩ (.int .i64 y.t)).setCell ⟨g, i * 3 + 1, none⟩ (.int .i64 y.v)).setCell ⟨g, i * 3 + 2, none⟩ (.int .i64 y.q)).ownsRow base e 3 (.slice (some ⟨g, 0, none⟩) n cap) n (cellsOf (l.set i y)) := by
  subst hl
  exact own_put h i hi y
/-- What chosen has after j rounds: the first j samples, then zeros. -/
def choTo (l : List Smp) (ks : List Int) (j : Nat) : List Smp := (choOf l ks).take j ++ List.replicate (ks.length - j) ⟨0, 0, 0⟩
theorem choTo_length (l : List Smp) (ks : List Int) (j : Nat) (h : j ≤ ks.length) : (choTo l ks j).length = ks.length := by
  simp [choTo, choOf_length]; omega
theorem choTo_step (l : List Smp) (ks : List Int) (j : Nat) (h : j < ks.length) : (choTo l ks j).set j (atS l (ks[j]).toNat) = choTo l ks (j + 1) := by
  unfold choTo
  rw [choOf_take l ks j h, List.set_append_right _ _ (by simp [choOf_length]; omega)]
  have h1 : j - ((choOf l ks).take j).length = 0 := by simp [choOf_length]; omega
  rw [h1, show ks.length - j = (ks.length - (j + 1)) + 1 by omega, List.replicate_succ]
  simp
theorem choTo_zero (l : List Smp) (ks : List Int) : choTo l ks 0 = List.replicate ks.length ⟨0, 0, 0⟩ := by simp [choTo]
theorem choTo_end (l : List Smp) (ks : List Int) : choTo l ks ks.length = choOf l ks := by
  simp [choTo]
  rw [List.take_of_length_le (by simp [choOf_length])]

end Go.Proofs.Ytmcojidaimeijaa

/- Mathematics of the steps of a series: a stepped tag has the same values when only its steps are kept. -/

namespace Go.Proofs.Ytmcojidaimeijaa
open Go.RowKit
set_option linter.unusedVariables false
set_option linter.unusedSimpArgs false

theorem stpTo_split (l : List Smp) (p k : Nat) : ∃ r : List Int, stpTo l (p + k) = stpTo l p ++ r ∧ ∀ x ∈ r, (p : Int) ≤ x ∧ x < ((p + k : Nat) : Int) := by
  induction k with
  | zero => exact ⟨[], by simp, fun x hx => by cases hx⟩
  | succ k ih =>
    obtain ⟨r, h1, h2⟩ := ih
    rw [← Nat.add_assoc, show stpTo l (p + k + 1) = if stpB l (p + k) = true then stpTo l (p + k) ++ [((p + k : Nat) : Int)] else stpTo l (p + k) from rfl]
    by_cases hb : stpB l (p + k) = true
    · rw [if_pos hb, h1]
      refine ⟨r ++ [((p + k : Nat) : Int)], by simp, fun x hx => ?_⟩
      rcases List.mem_append.1 hx with hx | hx
      · have := h2 x hx; omega
      · simp only [List.mem_singleton] at hx; subst hx; omega
    · rw [if_neg hb]
      exact ⟨r, h1, fun x hx => by have := h2 x hx; omega⟩
theorem stpTo_mem (l : List Smp) (p : Nat) : ∀ x ∈ stpTo l p, 0 ≤ x ∧ x < (p : Int) := by
  obtain ⟨r, h1, h2⟩ := stpTo_split l 0 p
  rw [Nat.zero_add] at h1 h2
  intro x hx
  rw [h1] at hx
  have : x ∈ r := by simpa [stpTo] using hx
  have := h2 x this
  omega
/-- The last step before p has the value and the quality of sample p - 1. -/
theorem stpTo_last (l : List Smp) (p : Nat) (hp : p < l.length) : ∃ (r : List Int) (j : Nat), stpTo l (p + 1) = r ++ [(j : Int)] ∧ j ≤ p ∧ (atS l j).v = (atS l p).v ∧ (atS l j).q = (atS l p).q := by
  induction p with
  | zero => exact ⟨[], 0, by simp [stpTo, stpB], Nat.le_refl _, rfl, rfl⟩
  | succ p ih =>
    rw [show stpTo l (p + 1 + 1) = if stpB l (p + 1) = true then stpTo l (p + 1) ++ [((p + 1 : Nat) : Int)] else stpTo l (p + 1) from rfl]
    by_cases hb : stpB l (p + 1) = true
    · rw [if_pos hb]
      exact ⟨stpTo l (p + 1), p + 1, rfl, Nat.le_refl _, rfl, rfl⟩
    · rw [if_neg hb]
      obtain ⟨r, j, h1, h2, h3, h4⟩ := ih (by omega)
      have hn : ¬ (p + 1 = 0 ∨ p + 1 + 1 = l.length ∨ (atS l (p + 1)).v ≠ (atS l (p + 1 - 1)).v ∨ (atS l (p + 1)).q ≠ (atS l (p + 1 - 1)).q) := by
        intro h; apply hb; unfold stpB; exact decide_eq_true h
      rw [Nat.add_sub_cancel] at hn
      have e1 : (atS l (p + 1)).v = (atS l p).v := Classical.byContradiction fun h => hn (.inr (.inr (.inl h)))
      have e2 : (atS l (p + 1)).q = (atS l p).q := Classical.byContradiction fun h => hn (.inr (.inr (.inr h)))
      exact ⟨r, j, h1, by omega, by rw [e1]; exact h3, by rw [e2]; exact h4⟩
theorem posF_split (A B : List Smp) (t : Int) (hA : ∀ x ∈ A, x.t < t) (hB : ∀ x ∈ B, t ≤ x.t) : posF (A ++ B) t = A.length := by
  unfold posF
  induction A with
  | nil =>
    cases B with
    | nil => rfl
    | cons y B =>
      have h := hB y (by simp)
      rw [List.nil_append, List.takeWhile_cons_of_neg (by simp; omega)]
  | cons x A ih =>
    have h := hA x (by simp)
    rw [List.cons_append, List.takeWhile_cons_of_pos (by simpa using h), List.length_cons, List.length_cons, ih (fun y hy => hA y (List.mem_cons_of_mem _ hy))]
theorem steps_value {l : List Smp} (hS : serErr l = 0) (t : Int) : valO (choOf l (stpTo l l.length)) true t = valO l true t := by
  have hrise := serErr_rise hS
  have hpl := posF_le l (t + 1)
  have hiff := fun i (hi : i < l.length) => posF_iff l (t + 1) none hrise i hi
  obtain ⟨r, h1, h2⟩ := stpTo_split l (posF l (t + 1)) (l.length - posF l (t + 1))
  rw [show posF l (t + 1) + (l.length - posF l (t + 1)) = l.length by omega] at h1 h2
  have hmem := stpTo_mem l (posF l (t + 1))
  have hpos : posF (choOf l (stpTo l l.length)) (t + 1) = (stpTo l (posF l (t + 1))).length := by
    rw [h1, show choOf l (stpTo l (posF l (t + 1)) ++ r) = choOf l (stpTo l (posF l (t + 1))) ++ choOf l r by simp [choOf], posF_split, choOf_length]
    · intro x hx
      unfold choOf at hx
      obtain ⟨k, hk, rfl⟩ := List.mem_map.1 hx
      have h3 := hmem k hk
      have h4 := hiff k.toNat (by omega)
      omega
    · intro x hx
      unfold choOf at hx
      obtain ⟨k, hk, rfl⟩ := List.mem_map.1 hx
      have h3 := h2 k hk
      have h4 := hiff k.toNat (by omega)
      omega
  unfold valO
  rw [hpos]
  by_cases hp : posF l (t + 1) = 0
  · rw [hp]
    simp [stpTo]
  · obtain ⟨p, hp2⟩ : ∃ p, posF l (t + 1) = p + 1 := ⟨posF l (t + 1) - 1, by omega⟩
    rw [hp2] at h1 hpl ⊢
    obtain ⟨r', j, g1, g2, g3, g4⟩ := stpTo_last l p (by omega)
    have hlen : (stpTo l (p + 1)).length = r'.length + 1 := by rw [g1]; simp
    have hat : atS (choOf l (stpTo l l.length)) r'.length = atS l j := by
      rw [h1, g1]
      unfold choOf
      rw [List.map_append, List.map_append]
      show (((r'.map fun k => atS l k.toNat) ++ [atS l (j : Int).toNat]) ++ r.map fun k => atS l k.toNat).getD r'.length ⟨0, 0, 0⟩ = atS l j
      rw [List.getD_eq_getElem?_getD, List.getElem?_append_left (by simp), List.getElem?_append_right (by simp)]
      simp
    rw [hlen, if_neg (show ¬ (r'.length + 1 = 0) by omega), if_neg (show ¬ (p + 1 = 0) by omega), if_pos (Or.inl rfl), if_pos (Or.inl rfl), Nat.add_sub_cancel, Nat.add_sub_cancel, hat, g3, g4]
theorem serFrom_zero {p : Option Int} {l : List Smp} (h : Rise p l) (hs : ∀ x ∈ l, smpErr x = 0) : serFrom p l = 0 := by
  induction l generalizing p with
  | nil => cases p <;> rfl
  | cons x l ih =>
    have h1 := hs x (by simp)
    have h2 : notAfter p x.t = false := by
      cases p with
      | none => rfl
      | some q => have := h.1 q rfl; simp [notAfter]; omega
    unfold serFrom
    rw [if_neg (by simp [h1]), if_neg (by simp [h2])]
    exact ih h.2 (fun y hy => hs y (List.mem_cons_of_mem _ hy))
theorem idxFrom_zero (n : Nat) (ks : List Int) (p : Option Int) (hp : ks.Pairwise (· < ·)) (hc : ∀ k ∈ ks, 0 ≤ k ∧ k < (n : Int)) (hq : ∀ q, p = some q → ∀ k ∈ ks, q < k) : idxFrom n p ks = 0 := by
  induction ks generalizing p with
  | nil => cases p <;> rfl
  | cons k r ih =>
    have h1 : inB k 0 ((n : Int) - 1) = true := inB_true.2 (by have := hc k (by simp); omega)
    have h2 : notAfter p k = false := by
      cases p with
      | none => rfl
      | some q => have := hq q rfl k (by simp); simp [notAfter]; omega
    obtain ⟨hp1, hp2⟩ := List.pairwise_cons.1 hp
    unfold idxFrom
    rw [h1, h2, if_neg (by simp), if_neg (by simp)]
    exact ih (some k) hp2 (fun y hy => hc y (List.mem_cons_of_mem _ hy)) (fun q hq2 y hy => by cases hq2; exact hp1 y hy)
theorem stpTo_rise (l : List Smp) (p : Nat) : (stpTo l p).Pairwise (· < ·) := by
  induction p with
  | zero => exact List.Pairwise.nil
  | succ p ih =>
    rw [show stpTo l (p + 1) = if stpB l p = true then stpTo l p ++ [(p : Int)] else stpTo l p from rfl]
    split
    · exact List.pairwise_append.2 ⟨ih, by simp, fun x hx y hy => by simp only [List.mem_singleton] at hy; subst hy; exact (stpTo_mem l p x hx).2⟩
    · exact ih
theorem stp_kept {l : List Smp} (hS : serErr l = 0) : keptErr l (stpTo l l.length) = 0 := by
  have h1 := stpTo_long l l.length
  unfold keptErr idxErr
  rw [if_neg (by simp [hS]), if_neg (by omega)]
  exact idxFrom_zero _ _ none (stpTo_rise l _) (stpTo_mem l _) (fun q hq => by cases hq)
/-- Right samples that are kept are a right series. -/
theorem chosen_right {l : List Smp} {ks : List Int} (hS : serErr l = 0) (h : idxErr l.length ks = 0) : serErr (choOf l ks) = 0 := by
  obtain ⟨hlong, hgood⟩ := serErr_good hS
  have hle : ks.length ≤ l.length := by
    unfold idxErr at h
    by_cases hc : l.length < ks.length
    · rw [if_pos hc] at h; omega
    · omega
  have hfrom : idxFrom l.length none ks = 0 := by unfold idxErr at h; rw [if_neg (by omega)] at h; exact h
  have hin := idxFrom_inside hfrom
  unfold serErr
  rw [if_neg (by rw [choOf_length]; omega)]
  refine serFrom_zero (choOf_rise (serErr_rise hS) hfrom (fun t ht => by cases ht)) (fun x hx => ?_)
  unfold choOf at hx
  obtain ⟨k, hk, rfl⟩ := List.mem_map.1 hx
  have h3 := hin k hk
  have hk2 : k.toNat < l.length := by omega
  rw [← atS_eq l k.toNat hk2]
  exact hgood _ (List.getElem_mem _)
theorem steps_right {l : List Smp} (hS : serErr l = 0) : serErr (choOf l (stpTo l l.length)) = 0 := by
  refine chosen_right hS ?_
  have h := stp_kept hS
  unfold keptErr at h
  rwa [if_neg (by simp [hS])] at h
end Go.Proofs.Ytmcojidaimeijaa

/- Plain mathematics of the compression: the reference's state after some samples, a span's bounds of slopes. -/

namespace Go.Proofs.Ytmcojidaimeijaa
open Go.RowKit
set_option linter.unusedVariables false
set_option linter.unusedSimpArgs false

def lineI (a b s : Smp) : Int := (a.v - s.v) * (b.t - a.t) + (b.v - a.v) * (s.t - a.t)
/-- One line from sample p to sample k is near enough to all between. -/
def Cov (d : Int) (l : List Smp) (p k : Nat) : Prop := ∀ j, p < j → j < k → lineI (atS l p) (atS l k) (atS l j) ≤ d * ((atS l k).t - (atS l p).t) ∧ -(d * ((atS l k).t - (atS l p).t)) ≤ lineI (atS l p) (atS l k) (atS l j)
def cov (d : Int) (l : List Smp) (p k : Nat) : Bool := (List.range k).all fun j => !decide (p < j) || (decide (lineI (atS l p) (atS l k) (atS l j) ≤ d * ((atS l k).t - (atS l p).t)) && decide (-(d * ((atS l k).t - (atS l p).t)) ≤ lineI (atS l p) (atS l k) (atS l j)))
theorem cov_true {d : Int} {l : List Smp} {p k : Nat} : cov d l p k = true ↔ Cov d l p k := by
  unfold cov Cov
  rw [List.all_eq_true]
  constructor
  · intro h j h1 h2
    have := h j (List.mem_range.2 h2)
    simp [h1] at this
    exact this
  · intro h j hj
    have hj := List.mem_range.1 hj
    by_cases h1 : p < j
    · have := h j h1 hj
      simp [h1]
      exact this
    · simp [h1]
theorem cov_false {d : Int} {l : List Smp} {p k : Nat} : cov d l p k = false ↔ ¬ Cov d l p k := by
  rw [← cov_true]; simp

/-- What has been kept, and the pivot. -/
def keepI (i : Nat) (s : List Int × Nat) : List Int × Nat := (if s.1.getLast? = some (i : Int) then s.1 else s.1 ++ [(i : Int)], i)
/-- Is the held sample archived because of sample i of the same quality? -/
def shut (d m : Int) (l : List Smp) (p i : Nat) : Bool :=
  decide (m < (atS l i).t - (atS l p).t) || (decide ((atS l i).q ≠ 2) && !(cov d l p i))
def compStep (d m : Int) (l : List Smp) (i : Nat) (s : List Int × Nat) : List Int × Nat :=
  if i = 0 then keepI 0 s
  else if (atS l i).q ≠ (atS l s.2).q then keepI i (keepI (i - 1) s)
  else if shut d m l s.2 i = true then keepI (i - 1) s
  else s
def compTo (d m : Int) (l : List Smp) : Nat → List Int × Nat
  | 0 => ([], 0)
  | i + 1 => compStep d m l i (compTo d m l i)
def compressed (d m : Int) (l : List Smp) : List Int :=
  if l.length = 0 then [] else (keepI (l.length - 1) (compTo d m l l.length)).1

theorem compTo_inv (d m : Int) (l : List Smp) (k : Nat) (hk : 0 < k) :
    (compTo d m l k).2 < k ∧ (compTo d m l k).1.getLast? = some ((compTo d m l k).2 : Int) ∧ (∀ x ∈ (compTo d m l k).1, 0 ≤ x ∧ x < (k : Int)) ∧ (compTo d m l k).1.length ≤ 2 * k := by
  induction k with
  | zero => omega
  | succ k ih =>
    rcases Nat.eq_zero_or_pos k with rfl | hk
    · simp [compTo, compStep, keepI]
    · obtain ⟨h1, h2, h3, h4⟩ := ih hk
      have keep : ∀ i (s : List Int × Nat), i < k + 1 → s.2 < k + 1 → s.1.getLast? = some (s.2 : Int) → (∀ x ∈ s.1, 0 ≤ x ∧ x < ((k + 1 : Nat) : Int)) →
          (keepI i s).2 < k + 1 ∧ (keepI i s).1.getLast? = some ((keepI i s).2 : Int) ∧ (∀ x ∈ (keepI i s).1, 0 ≤ x ∧ x < ((k + 1 : Nat) : Int)) ∧ (keepI i s).1.length ≤ s.1.length + 1 := by
        intro i s hi hs hl ha
        unfold keepI
        by_cases h : s.1.getLast? = some (i : Int)
        · rw [if_pos h]; exact ⟨hi, h, ha, by simp⟩
        · rw [if_neg h]
          refine ⟨hi, by simp, fun x hx => ?_, by simp⟩
          rcases List.mem_append.mp hx with hx | hx
          · exact ha x hx
          · simp at hx; omega
      have h3' : ∀ x ∈ (compTo d m l k).1, 0 ≤ x ∧ x < ((k + 1 : Nat) : Int) := fun x hx => by have := h3 x hx; omega
      simp only [compTo]
      unfold compStep
      rw [if_neg (by omega)]
      obtain ⟨a1, a2, a3, a4⟩ := keep (k - 1) (compTo d m l k) (by omega) (by omega) h2 h3'
      split
      · obtain ⟨b1, b2, b3, b4⟩ := keep k _ (by omega) a1 a2 a3
        exact ⟨b1, b2, b3, by omega⟩
      · split
        · exact ⟨a1, a2, a3, by omega⟩
        · exact ⟨by omega, h2, h3', by omega⟩

theorem keepI_same {i : Nat} {s : List Int × Nat} (hl : s.1.getLast? = some (s.2 : Int)) (h : s.2 = i) : keepI i s = s := by
  obtain ⟨a, b⟩ := s
  simp only at hl h
  subst h
  unfold keepI
  rw [if_pos hl]
theorem keepI_other {i : Nat} {s : List Int × Nat} (hl : s.1.getLast? = some (s.2 : Int)) (h : s.2 ≠ i) : keepI i s = (s.1 ++ [(i : Int)], i) := by
  unfold keepI
  rw [if_neg]
  rw [hl]
  intro hh
  have := Option.some.inj hh
  omega

/-- The state looks at the samples before it alone. -/
theorem cov_snoc (d : Int) (l r : List Smp) (p k : Nat) (hk : k < l.length) (hp : p < l.length) : cov d (l ++ r) p k = cov d l p k := by
  have e : ∀ i, i < l.length → atS (l ++ r) i = atS l i := fun i hi => by simp [atS, List.getD_eq_getElem?_getD, List.getElem?_append_left hi]
  have : Cov d (l ++ r) p k ↔ Cov d l p k := by
    unfold Cov
    rw [e p hp, e k hk]
    constructor
    · intro h j h1 h2; have := h j h1 h2; rwa [e j (by omega)] at this
    · intro h j h1 h2; rw [e j (by omega)]; exact h j h1 h2
  by_cases hc : Cov d l p k
  · rw [cov_true.2 hc, cov_true.2 (this.2 hc)]
  · rw [cov_false.2 hc, cov_false.2 (fun h => hc (this.1 h))]
theorem compTo_snoc (d m : Int) (l r : List Smp) (k : Nat) (hk : k ≤ l.length) : compTo d m (l ++ r) k = compTo d m l k := by
  have e : ∀ i, i < l.length → atS (l ++ r) i = atS l i := fun i hi => by simp [atS, List.getD_eq_getElem?_getD, List.getElem?_append_left hi]
  induction k with
  | zero => rfl
  | succ k ih =>
    simp only [compTo]
    rw [ih (by omega)]
    unfold compStep
    rcases Nat.eq_zero_or_pos k with rfl | hk0
    · simp
    · have h1 := (compTo_inv d m l k hk0).1
      have hk1 : ¬ k = 0 := by omega
      simp only [if_neg hk1]
      unfold shut
      rw [cov_snoc d l r _ k (by omega) (by omega), e k (by omega), e _ (by omega)]

/-- A slope below another one. -/
def slt (a b : Int × Int) : Bool := decide (a.1 * b.2 < b.1 * a.2)
/-- The slope from sample p to sample j, moved up. -/
def slopeI (l : List Smp) (p j : Nat) (u : Int) : Int × Int := ((atS l j).v + u - (atS l p).v, (atS l j).t - (atS l p).t)
/-- The greatest, or the least, of the slopes to the samples between p and k. -/
def IsLow (d : Int) (l : List Smp) (p k : Nat) (s : Int × Int) : Prop := (∃ j, p < j ∧ j < k ∧ s = slopeI l p j (-d)) ∧ ∀ j, p < j → j < k → slt s (slopeI l p j (-d)) = false
def IsHigh (d : Int) (l : List Smp) (p k : Nat) (s : Int × Int) : Prop := (∃ j, p < j ∧ j < k ∧ s = slopeI l p j d) ∧ ∀ j, p < j → j < k → slt (slopeI l p j d) s = false

theorem slt_trans {a b c : Int × Int} (ha : 0 < a.2) (hb : 0 < b.2) (hc : 0 < c.2) (h1 : slt a b = false) (h2 : slt b c = false) : slt a c = false := by
  unfold slt at *
  simp only [decide_eq_false_iff_not, Int.not_lt] at *
  have e1 := Int.mul_le_mul_of_nonneg_right h1 (Int.le_of_lt hc)
  have e2 := Int.mul_le_mul_of_nonneg_right h2 (Int.le_of_lt ha)
  have e3 : b.2 * (c.1 * a.2) ≤ b.2 * (a.1 * c.2) := by
    have q1 : b.1 * a.2 * c.2 = b.1 * c.2 * a.2 := by rw [Int.mul_assoc, Int.mul_comm a.2, ← Int.mul_assoc]
    have q2 : c.1 * b.2 * a.2 = b.2 * (c.1 * a.2) := by rw [Int.mul_comm c.1, Int.mul_assoc]
    have q3 : a.1 * b.2 * c.2 = b.2 * (a.1 * c.2) := by rw [Int.mul_comm a.1, Int.mul_assoc]
    rw [q2] at e2
    rw [q3, q1] at e1
    exact Int.le_trans e2 e1
  exact Int.le_of_mul_le_mul_left e3 hb
theorem slt_asymm {a b : Int × Int} (h : slt a b = true) : slt b a = false := by
  unfold slt at *; simp at *; omega
theorem slt_self (a : Int × Int) : slt a a = false := by unfold slt; simp

theorem low_first (d : Int) (l : List Smp) (p : Nat) : IsLow d l p (p + 2) (slopeI l p (p + 1) (-d)) :=
  ⟨⟨p + 1, by omega, by omega, rfl⟩, fun j h1 h2 => by obtain rfl : j = p + 1 := (by omega); exact slt_self _⟩
theorem high_first (d : Int) (l : List Smp) (p : Nat) : IsHigh d l p (p + 2) (slopeI l p (p + 1) d) :=
  ⟨⟨p + 1, by omega, by omega, rfl⟩, fun j h1 h2 => by obtain rfl : j = p + 1 := (by omega); exact slt_self _⟩
theorem slopeI_pos {l : List Smp} {q : Option Int} (hr : Rise q l) {p j : Nat} (h1 : p < j) (h2 : j < l.length) (u : Int) (hlt : ∀ i k, i < k → k < l.length → (atS l i).t < (atS l k).t) : 0 < (slopeI l p j u).2 := by
  have := hlt p j h1 h2; simp only [slopeI]; omega
theorem low_next {d : Int} {l : List Smp} {p k : Nat} {s : Int × Int} (hlt : ∀ i k, i < k → k < l.length → (atS l i).t < (atS l k).t) (hk : k < l.length) (hp : p < k) (h : IsLow d l p k s) :
    IsLow d l p (k + 1) (if slt s (slopeI l p k (-d)) = true then slopeI l p k (-d) else s) := by
  obtain ⟨⟨j0, h1, h2, rfl⟩, hall⟩ := h
  have pos : ∀ j, p < j → j ≤ k → 0 < (slopeI l p j (-d)).2 := fun j a b => by have := hlt p j a (by omega); simp only [slopeI]; omega
  by_cases hc : slt (slopeI l p j0 (-d)) (slopeI l p k (-d)) = true
  · rw [if_pos hc]
    refine ⟨⟨k, hp, by omega, rfl⟩, fun j a b => ?_⟩
    by_cases hj : j = k
    · subst hj; exact slt_self _
    · exact slt_trans (pos k hp (by omega)) (pos j0 h1 (by omega)) (pos j a (by omega)) (slt_asymm hc) (hall j a (by omega))
  · rw [if_neg hc]
    refine ⟨⟨j0, h1, by omega, rfl⟩, fun j a b => ?_⟩
    by_cases hj : j = k
    · subst hj; simpa using hc
    · exact hall j a (by omega)
theorem high_next {d : Int} {l : List Smp} {p k : Nat} {s : Int × Int} (hlt : ∀ i k, i < k → k < l.length → (atS l i).t < (atS l k).t) (hk : k < l.length) (hp : p < k) (h : IsHigh d l p k s) :
    IsHigh d l p (k + 1) (if slt (slopeI l p k d) s = true then slopeI l p k d else s) := by
  obtain ⟨⟨j0, h1, h2, rfl⟩, hall⟩ := h
  have pos : ∀ j, p < j → j ≤ k → 0 < (slopeI l p j d).2 := fun j a b => by have := hlt p j a (by omega); simp only [slopeI]; omega
  by_cases hc : slt (slopeI l p k d) (slopeI l p j0 d) = true
  · rw [if_pos hc]
    refine ⟨⟨k, hp, by omega, rfl⟩, fun j a b => ?_⟩
    by_cases hj : j = k
    · subst hj; exact slt_self _
    · exact slt_trans (pos j a (by omega)) (pos j0 h1 (by omega)) (pos k hp (by omega)) (hall j a (by omega)) (slt_asymm hc)
  · rw [if_neg hc]
    refine ⟨⟨j0, h1, by omega, rfl⟩, fun j a b => ?_⟩
    by_cases hj : j = k
    · subst hj; simpa using hc
    · exact hall j a (by omega)

/-- What a span accepts is what the reference covers. -/
theorem span_cov {d : Int} {l : List Smp} {p k : Nat} {lo hi : Int × Int} (hlt : ∀ i k, i < k → k < l.length → (atS l i).t < (atS l k).t) (hk : k < l.length) (hp : p + 1 < k) (h1 : IsLow d l p k lo) (h2 : IsHigh d l p k hi) :
    Cov d l p k ↔ (slt (slopeI l p k 0) lo = false ∧ slt hi (slopeI l p k 0) = false) := by
  have pos : ∀ u j, p < j → j ≤ k → 0 < (slopeI l p j u).2 := fun u j a b => by have := hlt p j a (by omega); simp only [slopeI]; omega
  have one : ∀ j, (lineI (atS l p) (atS l k) (atS l j) ≤ d * ((atS l k).t - (atS l p).t) ↔ slt (slopeI l p j d) (slopeI l p k 0) = false) ∧ (-(d * ((atS l k).t - (atS l p).t)) ≤ lineI (atS l p) (atS l k) (atS l j) ↔ slt (slopeI l p k 0) (slopeI l p j (-d)) = false) := by
    intro j
    unfold slt lineI slopeI
    simp only [decide_eq_false_iff_not, Int.not_lt]
    generalize (atS l p) = a
    generalize (atS l k) = b
    generalize (atS l j) = s
    have e1 : (s.v + d - a.v) * (b.t - a.t) = d * (b.t - a.t) - (a.v - s.v) * (b.t - a.t) := by rw [← Int.sub_mul]; congr 1; omega
    have e2 : (s.v + -d - a.v) * (b.t - a.t) = -(d * (b.t - a.t)) - (a.v - s.v) * (b.t - a.t) := by rw [← Int.neg_mul, ← Int.sub_mul]; congr 1; omega
    have e3 : (b.v + 0 - a.v) * (s.t - a.t) = (b.v - a.v) * (s.t - a.t) := by congr 1; omega
    rw [e1, e2, e3]
    constructor <;> constructor <;> intro h <;> omega
  obtain ⟨⟨j1, a1, a2, rfl⟩, hl⟩ := h1
  obtain ⟨⟨j2, b1, b2, rfl⟩, hh⟩ := h2
  constructor
  · intro h
    exact ⟨(one j1).2.1 (h j1 a1 a2).2, (one j2).1.1 (h j2 b1 b2).1⟩
  · rintro ⟨c1, c2⟩ j h3 h4
    refine ⟨(one j).1.2 ?_, (one j).2.2 ?_⟩
    · exact slt_trans (pos _ j h3 (by omega)) (pos _ j2 b1 (by omega)) (pos _ k (by omega) (by omega)) (hh j h3 h4) c2
    · exact slt_trans (pos _ k (by omega) (by omega)) (pos _ j1 a1 (by omega)) (pos _ j h3 (by omega)) c1 (hl j h3 h4)
/-- Lines between samples with the value 0 pass all between. -/
theorem cov_zero {d : Int} {l : List Smp} {p k : Nat} (hd : 0 ≤ d) (ht : (atS l p).t ≤ (atS l k).t) (hz : ∀ j, p ≤ j → j ≤ k → (atS l j).v = 0) (hpk : p ≤ k) : Cov d l p k := by
  intro j h1 h2
  unfold lineI
  rw [hz p (by omega) (by omega), hz k (by omega) (by omega), hz j (by omega) (by omega)]
  have := Int.mul_nonneg hd (Int.sub_nonneg.mpr ht)
  constructor <;> simp <;> omega
end Go.Proofs.Ytmcojidaimeijaa
