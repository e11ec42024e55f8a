import Derived.Deep.QuietTactic
import Derived.Test.YtmcojidaimeijaaSer
import Derived.Lib.SliceRun
import Derived.Laws.StructEq
import Derived.Deep.RegionLaw
import Derived.Test.YtmcojidaimeijaaAt
import Derived.Test.YtmcojidaimeijaaSerr
import Derived.Deep.DeepCutAuto
import Derived.Test.YtmcojidaimeijaaRecon
import Derived.Deep.RegionHeld3
import Derived.RegionTactic
import Derived.WalkLawsBesides
/- Equality of samples; slices.Equal at samples. -/

namespace Go.Proofs.Ytmcojidaimeijaa
open Go.RowKit
set_option linter.unusedVariables false
set_option linter.unusedSimpArgs false

theorem smp_held : Try.prog.stoodInHeld 57 = false := by kernel_rfl
theorem smp_guard : Try.prog.eqGuardType Try.prog.depth 57 = false := by kernel_rfl
theorem smp_fields : (Try.prog.fieldsOf 57).toList.map (fun f => (f.name, f.type, f.offset)) = [("At", 3, 0), ("Value", 3, 1), ("Quality", 3, 2)] := by kernel_rfl
theorem smp_under : Try.prog.underlying 57 = some (.struct (Try.prog.fieldsOf 57)) := by kernel_rfl
theorem int_size : (Try.prog.info? 3).map (fun i => (i.zero, i.size, i.bytes)) = some (some (.int .i64 0), 1, 8) := by kernel_rfl

theorem fields3 {fs : List Field} {a b c : String × TypeId × Nat} (h : fs.map (fun f => (f.name, f.type, f.offset)) = [a, b, c]) :
    ∃ f g k : Field, fs = [f, g, k] ∧ f.name = a.1 ∧ f.type = a.2.1 ∧ f.offset = a.2.2 ∧ g.name = b.1 ∧ g.type = b.2.1 ∧ g.offset = b.2.2 ∧ k.name = c.1 ∧ k.type = c.2.1 ∧ k.offset = c.2.2 := by
  match fs, h with
  | [f, g, k], h =>
    simp only [List.map_cons, List.map_nil, List.cons.injEq, and_true] at h
    obtain ⟨h1, h2, h3⟩ := h
    exact ⟨f, g, k, rfl, by rw [← h1], by rw [← h1], by rw [← h1], by rw [← h2], by rw [← h2], by rw [← h2], by rw [← h3], by rw [← h3], by rw [← h3]⟩

theorem smp_eq (w : World) (x y : Smp) : (Op.equalIn 10000 57 x.agg y.agg).run Try.prog w = .ok (decide (x = y)) w := by
  obtain ⟨f, g, k, hf, f1, f2, f3, g1, g2, g3, k1, k2, k3⟩ := fields3 smp_fields
  obtain ⟨i0, hi0, hz0, hz1, hz2⟩ := info_parts int_size
  obtain ⟨t, v, q⟩ := x
  obtain ⟨t', v', q'⟩ := y
  unfold Smp.agg
  rw [run_equalIn_struct w 9999 57 _ _ smp_under smp_held, hf]
  simp [Op.eqFields, f1, f2, f3, g1, g2, g3, k1, k2, k3, part, sizeOf, typeInfo, hi0, hz1, go_sem, Try.underlying3]
  by_cases h1 : t = t' <;> by_cases h2 : v = v' <;> by_cases h3 : q = q' <;> simp [h1, h2, h3]
theorem smp_neq (w : World) (x y : Smp) : (binOp .neq 57 (.agg #[.int .i64 x.t, .int .i64 x.v, .int .i64 x.q]) (.agg #[.int .i64 y.t, .int .i64 y.v, .int .i64 y.q])).run Try.prog w = .ok (.bool (!(decide (x = y)))) w := by
  have h := smp_eq w x y
  unfold Smp.agg at h
  rw [run_neq_struct, h]
  rfl


set_option maxRecDepth 100000 in
set_option maxHeartbeats 1000000 in
theorem equal_any (v v' : Value) (l l' : List Smp) (w : World) (hR : RdS w 57 v l) (hR' : RdS w 57 v' l') :
    Calls Try.prog 27 #[v, v'] w fun e w' => e = .returned (.bool (decide (l = l'))) ∧ ∃ m, w' = w.drewN m := by
  by_cases hle : l.length = l'.length
  · rcases Nat.eq_zero_or_pos l.length with h0 | h0
    · obtain rfl := List.eq_nil_of_length_eq_zero h0
      obtain rfl : l' = [] := List.eq_nil_of_length_eq_zero (by simpa using hle.symm)
      obtain ⟨_, a, c, rfl, _, _, _⟩ := hR
      obtain ⟨_, a', c', rfl, _, _, _⟩ := hR'
      clear hle h0
      go_enter Try.func27, Try.ntmps27
      go_wp2_with fail
      refine wp_loop_rounds 1 ?_
      rw [rounds_succ]
      go_wp2_with fail
      go_ret
      exact ⟨rfl, 0, rfl⟩
    · obtain ⟨b, off, c, rfl, hc1, hc2, hblt, hcell⟩ := RdS.cells hR h0
      obtain ⟨b', off', c', rfl, hc1', hc2', hblt', hcell'⟩ := RdS.cells hR' (by omega)
      unfold maxLen at hc2 hc2'
      have HC := Lib.hid hcell
      have HC' := Lib.hid hcell'
      have HLE := Lib.hid hle
      have hne : ((l.length : Int) != (l'.length : Int)) = false := by rw [hle]; simp
      clear hcell hcell' hle
      go_enter Try.func27, Try.ntmps27
      go_wp2_with fail
      go_loopw [13] (fun i wr => ∃ j : Nat, j ≤ l.length ∧ i = .int .i64 (j : Int) ∧ l.take j = l'.take j ∧ ∃ m, wr = w.drewN m) (fun i _ => l.length - (intOf i).toNat)
      case atStart => exact ⟨0, by omega, rfl, by simp, 0, rfl⟩
      case round =>
        obtain ⟨j, hj, rfl, heq, m, rfl⟩ := hrel
        have HEQ := Lib.hid heq
        clear heq
        by_cases hlt : j < l.length
        · have hlt' : j < l'.length := by have := HLE.out; omega
          obtain ⟨c0, c1, c2⟩ := HC.out j hlt
          obtain ⟨d0, d1, d2⟩ := HC'.out j hlt'
          have hlt2 : (j : Int) < (l'.length : Int) := by omega
          have htk : l.take (j + 1) = l.take j ++ [l[j]] := by rw [List.take_succ_eq_append_getElem hlt]
          have htk' : l'.take (j + 1) = l'.take j ++ [l'[j]] := by rw [List.take_succ_eq_append_getElem hlt']
          have hgl : l[j]? = some l[j] := List.getElem?_eq_getElem hlt
          have hgl' : l'[j]? = some l'[j] := List.getElem?_eq_getElem hlt'
          generalize l[j] = x at *
          generalize l'[j] = y at *
          have HTK := Lib.hid htk
          have HTK' := Lib.hid htk'
          have HG := Lib.hid hgl
          have HG' := Lib.hid hgl'
          clear htk htk' hgl hgl'
          have hgd := smp_guard
          by_cases hxy : x = y
          · have hneq : ∀ w : World, (binOp .neq 57 (.agg #[.int .i64 x.t, .int .i64 x.v, .int .i64 x.q]) (.agg #[.int .i64 y.t, .int .i64 y.v, .int .i64 y.q])).run Try.prog w = .ok (.bool false) w := fun w => by rw [smp_neq, decide_eq_true hxy]; rfl
            have HXY := Lib.hid hxy
            clear hxy
            go_wp2_with fail
            go_quiet (fail)
            go_wp2_with fail
            go_roundw
            case rel => exact ⟨j + 1, by omega, by go_num, by rw [HTK.out, HTK'.out, HEQ.out, HXY.out], _, rfl⟩
            case measure => simp [intOf]; omega
          · have hneq : ∀ w : World, (binOp .neq 57 (.agg #[.int .i64 x.t, .int .i64 x.v, .int .i64 x.q]) (.agg #[.int .i64 y.t, .int .i64 y.v, .int .i64 y.q])).run Try.prog w = .ok (.bool true) w := fun w => by rw [smp_neq, decide_eq_false hxy]; rfl
            have HXY := Lib.hid hxy
            clear hxy
            go_wp2_with fail
            go_quiet (fail)
            go_wp2_with fail
            go_ret
            have hd : decide (l = l') = false := by
              refine decide_eq_false fun he => HXY.out ?_
              have h1 := HG.out
              rw [he, HG'.out] at h1
              exact (Option.some.inj h1).symm
            exact ⟨ret_bool hd.symm, _, World.drewN_drewN _ _ _⟩
        · obtain rfl : j = l.length := by omega
          have hd : decide (l = l') = true := by
            refine decide_eq_true ?_
            have h1 := HEQ.out
            rw [List.take_of_length_le (Nat.le_refl _), List.take_of_length_le (by have := HLE.out; omega)] at h1
            exact h1
          have HD := Lib.hid hd
          clear hd
          go_wp2_with fail
          go_ret
          exact ⟨ret_bool HD.out.symm, m, rfl⟩
  · obtain ⟨_, a, c, rfl, _, _, _⟩ := hR
    obtain ⟨_, a', c', rfl, _, _, _⟩ := hR'
    have hne : ((l.length : Int) != (l'.length : Int)) = true := by simp; omega
    have hd : decide (l = l') = false := decide_eq_false fun he => hle (by rw [he])
    have HD := Lib.hid hd
    clear hd hle
    go_enter Try.func27, Try.ntmps27
    go_wp2_with fail
    go_ret
    exact ⟨ret_bool HD.out.symm, 0, rfl⟩
end Go.Proofs.Ytmcojidaimeijaa

/- append of one number; slices of numbers; slices.Equal at numbers. -/

namespace Go.Proofs.Ytmcojidaimeijaa
open Go.RowKit
set_option linter.unusedVariables false
set_option linter.unusedSimpArgs false

/-- append of one number that lies alone in block b. -/
theorem wpList_append_num {w : World} {ops : Array Oper} {rest : List Oper} {o : Oper} {a : Act} {Q : Exit → Act → World → Prop} (hgd : o.guard = none) (s x : Operand)
    (ho : o.op = .call { callee := .builtin .append, args := #[s, x], argTypes := #[22, 22] })
    (base : Nat) (v : Value) (n : Nat) (l : List Int) (hs : a.eval s = v) (hown : w.ownsRow base 3 1 v n (l.map (Value.int .i64))) (b : Nat) (hx : a.eval x = .slice (some ⟨b, 0, none⟩) 1 1) (y : Int)
    (hb : Blk w b 3 #[.int .i64 y]) (hn : n ≤ 100000000) (hbase : base ≤ w.heap.size)
    (h : ∀ v' w', w'.ownsRow base 3 1 v' (n + 1) ((l ++ [y]).map (Value.int .i64)) → w.grownBy w' v.ownBlock → wpList Try.prog ops Q rest (a.put o.dst v') w') : wpList Try.prog ops Q (o :: rest) a w := by
  obtain ⟨i0, hi0, hz0, hz1, hz2⟩ := info_parts int_size
  refine wpList_append_own w hgd s x 22 ho base 3 i0 _ 1 8 Try.underlying22 hi0 hz0 hz1 hz2 rfl (by decide) v n _ hs hown ⟨b, 0, none⟩ 1 1 [.int .i64 y] hx rfl ?_ ?_ ?_ ?_ hbase ?_
  · intro j u hu
    have hj : j = 0 := by
      rcases Nat.eq_zero_or_pos j with h | h
      · exact h
      · rw [List.getElem?_eq_none (by simp; omega)] at hu; cases hu
    subst hj
    have e1 : (⟨b, 0, none⟩ : Addr).add 0 = ⟨b, 0, none⟩ := rfl
    rw [e1, hb.cell 0, ← hu]
    rfl
  · intro u hu
    simp at hu
    subst hu; rfl
  · simp only [maxLen]; omega
  · omega
  · intro v' w' h1 h2 _
    exact h v' w' (by simpa using h1) h2

/-- A slice of numbers reads as l. -/
def RdI (w : World) (v : Value) (l : List Int) : Prop := Rd w 3 1 v l.length (l.map (Value.int .i64))
theorem RdI.cells {w : World} {v : Value} {l : List Int} (h : RdI w v l) (hn : 0 < l.length) :
    ∃ b off c, v = .slice (some ⟨b, off, none⟩) l.length c ∧ l.length ≤ c ∧ c ≤ maxLen ∧ b < w.heap.size ∧ ∀ i (hi : i < l.length), w.cell? ⟨b, off + i, none⟩ = some (.int .i64 l[i]) := by
  obtain ⟨b, off, c, hv, h2, h3, hlt, hc⟩ := Rd.cell h hn
  refine ⟨b, off, c, hv, h2, h3, hlt, fun i hi => ?_⟩
  rw [hc i (by omega)]
  simp [hi]

end Go.Proofs.Ytmcojidaimeijaa

/- The steps of a series (reference): mathematics, and the walk of StepsOf. No condition beyond the contract's. -/

namespace Go.Proofs.Ytmcojidaimeijaa
open Go.RowKit
set_option linter.unusedVariables false
set_option linter.unusedSimpArgs false

/-- The sample j begins or ends the series, or differs from the one before. -/
def stpB (l : List Smp) (j : Nat) : Bool := decide (j = 0 ∨ j + 1 = l.length ∨ (atS l j).v ≠ (atS l (j - 1)).v ∨ (atS l j).q ≠ (atS l (j - 1)).q)
def stpTo (l : List Smp) : Nat → List Int
  | 0 => []
  | j + 1 => if stpB l j = true then stpTo l j ++ [(j : Int)] else stpTo l j
theorem stpTo_long (l : List Smp) (j : Nat) : (stpTo l j).length ≤ j := by
  induction j with
  | zero => simp [stpTo]
  | succ j ih =>
    rw [show stpTo l (j + 1) = if stpB l j = true then stpTo l j ++ [(j : Int)] else stpTo l j from rfl]
    split
    · simp; omega
    · omega

structure StK (w1 : World) (o : Value) (out : List Int) (w : World) : Prop where
  own : w.ownsRow w1.heap.size 3 1 o out.length (out.map (Value.int .i64))
  bl : Below w1.heap.size w1 w
theorem StK.step {w1 w w' : World} {o : Value} {out : List Int} (h : StK w1 o out w) (hb : Below w.heap.size w w') : StK w1 o out w' :=
  ⟨own_keep h.own fun b _ _ hh => hb.block b (lt_of_heap hh), h.bl.trans (hb.mono h.bl.size)⟩
theorem StK.alloc {w1 w : World} {o : Value} {out : List Int} (h : StK w1 o out w) (x : Obj) : StK w1 o out (w.alloc x) := h.step ((Below.refl _ _).alloc (Nat.le_refl _) _)
theorem StK.drewN {w1 w : World} {o : Value} {out : List Int} (h : StK w1 o out w) (m : Nat) : StK w1 o out (w.drewN m) :=
  h.step (show Below w.heap.size w (w.drewN m) from ⟨rfl, rfl, rfl, Nat.le_refl _, fun _ _ => rfl⟩)
theorem StK.grown {w1 w w' : World} {o o' : Value} {out : List Int} (h : StK w1 o out w) (x : Int) (hg : w.grownBy w' o.ownBlock) (ho : w'.ownsRow w1.heap.size 3 1 o' (out.length + 1) ((out ++ [x]).map (Value.int .i64))) : StK w1 o' (out ++ [x]) w' :=
  ⟨by simpa using ho, h.bl.trans (below_grown h.own h.bl.size hg)⟩

end Go.Proofs.Ytmcojidaimeijaa

/- The contract of ValueAt (package query). -/

namespace Go.Proofs.Ytmcojidaimeijaa
open Go.RowKit
set_option linter.unusedVariables false
set_option linter.unusedSimpArgs false

/-- A point: its value and its quality. -/
structure Pnt where
  n : Int
  d : Int
  q : Int
/-- The value at a moment. -/
def valO (l : List Smp) (st : Bool) (t : Int) : Option Pnt :=
  if posF l (t + 1) = 0 then none
  else if st = true ∨ (atS l (posF l (t + 1) - 1)).t = t ∨ (atS l (posF l (t + 1) - 1)).q = 2 ∨ posF l (t + 1) = l.length ∨ (atS l (posF l (t + 1))).q = 2 then
    some ⟨(atS l (posF l (t + 1) - 1)).v, 1, (atS l (posF l (t + 1) - 1)).q⟩
  else some ⟨(lineAt (atS l (posF l (t + 1) - 1)) (atS l (posF l (t + 1))) t).1, (lineAt (atS l (posF l (t + 1) - 1)) (atS l (posF l (t + 1))) t).2, if (atS l (posF l (t + 1) - 1)).q < (atS l (posF l (t + 1))).q then (atS l (posF l (t + 1))).q else (atS l (posF l (t + 1) - 1)).q⟩
def pntV (t : Int) : Option Pnt → Value
  | none => .agg #[.int .i64 0, .int .i64 0, .int .i64 0, .int .i64 0]
  | some p => .agg #[.int .i64 t, .int .i64 p.n, .int .i64 p.d, .int .i64 p.q]

/-- What valueAt keeps. -/
structure VK (w0 : World) (v : Value) (l : List Smp) (w : World) : Prop where
  b : Blk w w0.heap.size 37 #[.int .i64 0, .int .i64 0, .int .i64 0, .int .i64 0]
  rd : RdS w 57 v l
  be : Below w0.heap.size w0 w
theorem VK.step {w0 w w' : World} {v : Value} {l : List Smp} (hb : Below w.heap.size w w') (h : VK w0 v l w) : VK w0 v l w' :=
  ⟨h.b.below hb h.b.lt, h.rd.below hb (Nat.le_refl _), h.be.trans (hb.mono h.be.size)⟩
theorem VK.start (w : World) (v : Value) (l : List Smp) (h : RdS w 57 v l) :
    VK w v l (w.alloc (.cells #[.int .i64 0, .int .i64 0, .int .i64 0, .int .i64 0] 37)) :=
  ⟨Blk.new w _ _, Rd.alloc h _, (Below.refl _ w).alloc (Nat.le_refl _) _⟩

/-- And the boxes of the sample and of the point. -/
structure VB (w0 : World) (v : Value) (l : List Smp) (t : Int) (P : Smp) (n : Nat) (w : World) : Prop where
  k : VK w0 v l w
  p : Blk w n 57 #[.int .i64 P.t, .int .i64 P.v, .int .i64 P.q]
  x : Blk w (n + 1) 37 #[.int .i64 t, .int .i64 P.v, .int .i64 1, .int .i64 P.q]
theorem VB.step {w0 w w' : World} {v : Value} {l : List Smp} {t : Int} {P : Smp} {n : Nat} (hb : Below w.heap.size w w') (h : VB w0 v l t P n w) : VB w0 v l t P n w' :=
  ⟨VK.step hb h.k, h.p.below hb h.p.lt, h.x.below hb h.x.lt⟩
theorem VB.stored {w0 w : World} {v : Value} {l : List Smp} {t : Int} {P : Smp} {n : Nat} (h : VB w0 v l t P n w) (u u' : Value) :
    RdS ((w.setCell ⟨n + 1, 1, none⟩ u).setCell ⟨n + 1, 2, none⟩ u') 57 v l ∧ Blk ((w.setCell ⟨n + 1, 1, none⟩ u).setCell ⟨n + 1, 2, none⟩ u') n 57 #[.int .i64 P.t, .int .i64 P.v, .int .i64 P.q] := by
  obtain ⟨cs, h3⟩ := h.x.setSame (i := 1) u
  exact ⟨Rd.setCell (Rd.setCell h.k.rd _ _ (h.x.no (by decide))) _ _ (h3.no (by decide)), (h.p.setOther (by simp) _).setOther (by simp) _⟩
theorem VB.drew {w0 w : World} {v : Value} {l : List Smp} {t : Int} {P : Smp} {n : Nat} (h : VB w0 v l t P n w) : VB w0 v l t P n w.drew :=
  VB.step (show Below w.heap.size w w.drew from ⟨rfl, rfl, rfl, Nat.le_refl _, fun _ _ => rfl⟩) h

theorem ptSet2 {w : World} {n : Nat} {T : TypeId} {a b c d : Value} (h : Blk w n T #[a, b, c, d]) (u u' : Value) : Blk ((w.setCell ⟨n, 1, none⟩ u).setCell ⟨n, 2, none⟩ u') n T #[a, u, u', d] := by
  unfold Blk at h ⊢
  simp [World.setCell, Array.getElem?_modify, h]
theorem ptSet3 {w : World} {n : Nat} {T : TypeId} {a b c d : Value} (h : Blk w n T #[a, b, c, d]) (u : Value) : Blk (w.setCell ⟨n, 3, none⟩ u) n T #[a, b, c, u] := by
  unfold Blk at h ⊢
  simp [World.setCell, Array.getElem?_modify, h]

set_option maxRecDepth 100000 in
set_option maxHeartbeats 4000000 in
theorem valueAt_any (v : Value) (l : List Smp) (st : Bool) (t : Int) (w : World) (hR : RdS w 57 v l) (hS : Rise none l) (hlong : l.length ≤ 5000) (hr : ∀ i, i < l.length → Right (atS l i)) (ht : 0 ≤ t ∧ t ≤ 345686400000) :
    Calls Try.prog 55 #[v, .bool st, .int .i64 t] w fun e w' => e = .returned (.tuple #[pntV t (valO l st t), .bool (valO l st t).isSome]) ∧ Below w.heap.size w w' := by
  obtain ⟨pa, ca, rfl⟩ := hR.lenv
  have hdef : valO l st t = if posF l (t + 1) = 0 then none
    else if st = true ∨ (atS l (posF l (t + 1) - 1)).t = t ∨ (atS l (posF l (t + 1) - 1)).q = 2 ∨ posF l (t + 1) = l.length ∨ (atS l (posF l (t + 1))).q = 2 then
      some ⟨(atS l (posF l (t + 1) - 1)).v, 1, (atS l (posF l (t + 1) - 1)).q⟩
    else some ⟨(lineAt (atS l (posF l (t + 1) - 1)) (atS l (posF l (t + 1))) t).1, (lineAt (atS l (posF l (t + 1) - 1)) (atS l (posF l (t + 1))) t).2, if (atS l (posF l (t + 1) - 1)).q < (atS l (posF l (t + 1))).q then (atS l (posF l (t + 1))).q else (atS l (posF l (t + 1) - 1)).q⟩ := rfl
  have hk0 := VK.start w (.slice pa l.length ca) l hR
  have hps := position_any (.slice pa l.length ca) l (t + 1) _ hk0.rd hS hlong
  have hpl := posF_le l (t + 1)
  have hpa := pos_around l (t + 1) hS
  generalize valO l st t = O at *
  generalize posF l (t + 1) = p at *
  have HDEF := Lib.hid hdef
  have HPS := Lib.hid hps
  have HK0 := Lib.hid hk0
  have HPA := Lib.hid hpa
  have HRR := Lib.hid hr
  clear hdef hps hk0 hpa hr hR hS
  go_enter Try.func55, Try.ntmps55
  go_wp2_with fail
  refine HPS.out.mono ?_
  rintro e w1 ⟨rfl, hb1⟩
  have hk := VK.step hb1 HK0.out
  clear HK0 HPS hb1
  have r0 : w1.cell? ⟨w.heap.size, 0, none⟩ = some (.int .i64 0) := hk.b.cell 0
  have r1 : w1.cell? ⟨w.heap.size, 1, none⟩ = some (.int .i64 0) := hk.b.cell 1
  have r2 : w1.cell? ⟨w.heap.size, 2, none⟩ = some (.int .i64 0) := hk.b.cell 2
  have r3 : w1.cell? ⟨w.heap.size, 3, none⟩ = some (.int .i64 0) := hk.b.cell 3
  have g0 : w1.frozen? ⟨w.heap.size, 0, none⟩ = false := hk.b.frozen 0
  have g1 : w1.frozen? ⟨w.heap.size, 1, none⟩ = false := hk.b.frozen 1
  have g2 : w1.frozen? ⟨w.heap.size, 2, none⟩ = false := hk.b.frozen 2
  have g3 : w1.frozen? ⟨w.heap.size, 3, none⟩ = false := hk.b.frozen 3
  have hz := hk.b.lt
  have hbl := hk.be
  by_cases hp0 : p = 0
  · have hO : O = none := by rw [HDEF.out, if_pos hp0]
    subst hO
    subst hp0
    go_wp2_with fail
    refine bodyPost_ret (v := .tuple #[pntV t none, .bool false]) (by simp [results, Try.results55, go_sem, r0, r1, r2, r3, pntV]) rfl ⟨rfl, ?_⟩
    exact hbl.trans (by (repeat (refine Below.setCell ?_ (by exact Nat.le_refl _) _)); exact Below.refl _ _)
  · have hp0' : ((p : Int) == 0) = false := by simp; omega
    obtain ⟨b, off, c, hv, hc1, hc2, hblt, hcell⟩ := RdS.at_ hk.rd (by omega)
    cases hv
    unfold maxLen at hc2
    obtain ⟨c0, c1, c2⟩ := hcell (p - 1) (by omega)
    have j1 : (0 : Int) ≤ (p : Int) - 1 := by omega
    have j2 : (p : Int) - 1 < (l.length : Int) := by omega
    have j3 : ((p : Int) - 1).toNat = p - 1 := by omega
    have hz1 : w.heap.size < w1.heap.size + 1 := by omega
    have hkb : VB w (.slice (some ⟨b, off, none⟩) l.length ca) l t (atS l (p - 1)) w1.heap.size ((w1.alloc (.cells #[.int .i64 (atS l (p - 1)).t, .int .i64 (atS l (p - 1)).v, .int .i64 (atS l (p - 1)).q] 57)).alloc (.cells #[.int .i64 t, .int .i64 (atS l (p - 1)).v, .int .i64 1, .int .i64 (atS l (p - 1)).q] 37)) :=
      ⟨VK.step ((Below.refl _ _).alloc (Nat.le_refl _) _) (VK.step ((Below.refl _ _).alloc (Nat.le_refl _) _) hk), (Blk.new _ _ _).alloc _, Blk.new1 _ _ _ _⟩
    have i1 : (0 : Int) ≤ (p : Int) := by omega
    have hO1 := HDEF.out
    rw [if_neg hp0] at hO1
    have HP := Lib.hid (show atS l (p - 1) = atS l (p - 1) from rfl)
    have HO1 := Lib.hid hO1
    have hrp := HRR.out (p - 1) (by omega)
    have hrx := fun h : p < l.length => HRR.out p h
    have hlp := HPA.out.1 (p - 1) (by omega) (by omega)
    have hlx := HPA.out.2
    clear hO1 HDEF HRR HPA r0 r1 r2 r3 g0 g1 g2 g3 hcell hk
    generalize hPe : atS l (p - 1) = P at *
    generalize hXe : atS l p = X at *
    have HPE := Lib.hid hPe
    have HXE := Lib.hid hXe
    clear hPe hXe HP
    go_upto_region 6 with fail
    generalize (w1.alloc (.cells #[.int .i64 P.t, .int .i64 P.v, .int .i64 P.q] 57)).alloc (.cells #[.int .i64 t, .int .i64 P.v, .int .i64 1, .int .i64 P.q] 37) = W2 at *
    have hne : ¬ w1.heap.size = w.heap.size := by omega
    have hne2 : ¬ w1.heap.size + 1 = w.heap.size := by omega
    clear c0 c1 c2 hbl hblt hz1
    generalize w1.heap.size = n at *
    have r0 : W2.cell? ⟨w.heap.size, 0, none⟩ = some (.int .i64 0) := hkb.k.b.cell 0
    have r1 : W2.cell? ⟨w.heap.size, 1, none⟩ = some (.int .i64 0) := hkb.k.b.cell 1
    have r2 : W2.cell? ⟨w.heap.size, 2, none⟩ = some (.int .i64 0) := hkb.k.b.cell 2
    have r3 : W2.cell? ⟨w.heap.size, 3, none⟩ = some (.int .i64 0) := hkb.k.b.cell 3
    have g0 : W2.frozen? ⟨w.heap.size, 0, none⟩ = false := hkb.k.b.frozen 0
    have g1 : W2.frozen? ⟨w.heap.size, 1, none⟩ = false := hkb.k.b.frozen 1
    have g2 : W2.frozen? ⟨w.heap.size, 2, none⟩ = false := hkb.k.b.frozen 2
    have g3 : W2.frozen? ⟨w.heap.size, 3, none⟩ = false := hkb.k.b.frozen 3
    have p0 : W2.cell? ⟨n, 0, none⟩ = some (.int .i64 P.t) := hkb.p.cell 0
    have p1 : W2.cell? ⟨n, 1, none⟩ = some (.int .i64 P.v) := hkb.p.cell 1
    have p2 : W2.cell? ⟨n, 2, none⟩ = some (.int .i64 P.q) := hkb.p.cell 2
    have x0 : W2.cell? ⟨n + 1, 0, none⟩ = some (.int .i64 t) := hkb.x.cell 0
    have x1 : W2.cell? ⟨n + 1, 1, none⟩ = some (.int .i64 P.v) := hkb.x.cell 1
    have x2 : W2.cell? ⟨n + 1, 2, none⟩ = some (.int .i64 1) := hkb.x.cell 2
    have x3 : W2.cell? ⟨n + 1, 3, none⟩ = some (.int .i64 P.q) := hkb.x.cell 3
    have hbe := hkb.k.be
    by_cases hs : st = true ∨ P.t = t ∨ P.q = 2 ∨ p = l.length ∨ X.q = 2
    · have HO := Lib.hid (show O = some ⟨P.v, 1, P.q⟩ by rw [HO1.out, if_pos hs])
      have HS := Lib.hid hs
      clear hs hrx hlx hrp hlp HO1
      cases st
      · by_cases ht1 : P.t = t
        · have ht1' : (P.t == t) = true := by simpa using ht1
          clear ht1 hkb
          go_wp2_with fail
          refine bodyPost_ret (v := .tuple #[pntV t (some ⟨P.v, 1, P.q⟩), .bool true]) (by simp [results, Try.results55, go_sem, r0, r1, r2, r3, pntV]) rfl ⟨by rw [HO.out]; rfl, ?_⟩
          exact hbe.trans (by (repeat (refine Below.setCell ?_ (by exact Nat.le_refl _) _)); exact Below.refl _ _)
        · have ht1' : (P.t == t) = false := by simpa using ht1
          by_cases hq1 : P.q = 2
          · have hq1' : (P.q == 2) = true := by simpa using hq1
            clear ht1 hq1 hkb
            go_wp2_with fail
            refine bodyPost_ret (v := .tuple #[pntV t (some ⟨P.v, 1, P.q⟩), .bool true]) (by simp [results, Try.results55, go_sem, r0, r1, r2, r3, pntV]) rfl ⟨by rw [HO.out]; rfl, ?_⟩
            exact hbe.trans (by (repeat (refine Below.setCell ?_ (by exact Nat.le_refl _) _)); exact Below.refl _ _)
          · have hq1' : (P.q == 2) = false := by simpa using hq1
            by_cases hpn : p = l.length
            · have hpn' : ((p : Int) == (l.length : Int)) = true := by simp; omega
              clear ht1 hq1 hpn hkb
              go_wp2_with fail
              refine bodyPost_ret (v := .tuple #[pntV t (some ⟨P.v, 1, P.q⟩), .bool true]) (by simp [results, Try.results55, go_sem, r0, r1, r2, r3, pntV]) rfl ⟨by rw [HO.out]; rfl, ?_⟩
              exact hbe.trans (by (repeat (refine Below.setCell ?_ (by exact Nat.le_refl _) _)); exact Below.refl _ _)
            · have hpn' : ((p : Int) == (l.length : Int)) = false := by simp; omega
              have hxq : X.q = 2 := by
                rcases HS.out with h | h | h | h | h
                · cases h
                · exact absurd h ht1
                · exact absurd h hq1
                · exact absurd h hpn
                · exact h
              have hxq' : (X.q == 2) = true := by simpa using hxq
              have hplt : (p : Int) < (l.length : Int) := by omega
              have n2 : W2.cell? ⟨b, off + p * 3 + 2, none⟩ = some (.int .i64 X.q) := by rw [← HXE.out]; exact (hkb.k.rd.atv p (by omega)).2.2.1
              clear ht1 hq1 hpn hkb hxq
              go_wp2_with fail
              refine bodyPost_ret (v := .tuple #[pntV t (some ⟨P.v, 1, P.q⟩), .bool true]) (by simp [results, Try.results55, go_sem, r0, r1, r2, r3, pntV]) rfl ⟨by rw [HO.out]; rfl, ?_⟩
              exact hbe.trans (by (repeat (refine Below.setCell ?_ (by exact Nat.le_refl _) _)); exact Below.refl _ _)
      · clear hkb
        go_wp2_with fail
        refine bodyPost_ret (v := .tuple #[pntV t (some ⟨P.v, 1, P.q⟩), .bool true]) (by simp [results, Try.results55, go_sem, r0, r1, r2, r3, pntV]) rfl ⟨by rw [HO.out]; rfl, ?_⟩
        exact hbe.trans (by (repeat (refine Below.setCell ?_ (by exact Nat.le_refl _) _)); exact Below.refl _ _)
    · have hst : st = false := by cases st; · rfl
                                  · exact absurd (.inl rfl) hs
      have ht1' : (P.t == t) = false := by simpa using fun h => hs (.inr (.inl h))
      have hq1' : (P.q == 2) = false := by simpa using fun h => hs (.inr (.inr (.inl h)))
      have hpn : ¬ p = l.length := fun h => hs (.inr (.inr (.inr (.inl h))))
      have hpn' : ((p : Int) == (l.length : Int)) = false := by simp; omega
      have hxq' : (X.q == 2) = false := by simpa using fun h => hs (.inr (.inr (.inr (.inr h))))
      have hplt : (p : Int) < (l.length : Int) := by omega
      have HO := Lib.hid (show O = some ⟨(lineAt P X t).1, (lineAt P X t).2, if P.q < X.q then X.q else P.q⟩ by rw [HO1.out, if_neg hs])
      have hon := fun w => onLine_any P X t w hrp (hrx (by omega)) (by have := hlx (by omega); omega) (by have := hlx (by omega); omega)
      have hat : ∀ w', RdS w' 57 (.slice (some ⟨b, off, none⟩) l.length ca) l → Blk w' n 57 #[.int .i64 P.t, .int .i64 P.v, .int .i64 P.q] → w'.cell? ⟨b, off + p * 3, none⟩ = some (.int .i64 X.t) ∧ w'.cell? ⟨b, off + p * 3 + 1, none⟩ = some (.int .i64 X.v) ∧ w'.cell? ⟨b, off + p * 3 + 2, none⟩ = some (.int .i64 X.q) ∧ w'.cell? ⟨n, 0, none⟩ = some (.int .i64 P.t) ∧ w'.cell? ⟨n, 1, none⟩ = some (.int .i64 P.v) ∧ w'.cell? ⟨n, 2, none⟩ = some (.int .i64 P.q) := fun w' h hp => by
        have h1 := h.atv p (by omega)
        rw [HXE.out] at h1
        exact ⟨h1.1, h1.2.1, h1.2.2.1, hp.cell 0, hp.cell 1, hp.cell 2⟩
      have HAT := Lib.hid hat
      have HON := Lib.hid hon
      generalize lineAt P X t = V at *
      subst hst
      obtain ⟨n0, n1, n2, _⟩ := hat _ hkb.k.rd hkb.p
      clear hs HO1 hrp hrx hlp hlx hpn hat hon
      go_upto_region 8 with fail
      go_region_held3 (fun w' => w'.cell? ⟨b, off + p * 3, none⟩ = some (.int .i64 X.t) ∧ w'.cell? ⟨b, off + p * 3 + 1, none⟩ = some (.int .i64 X.v) ∧ w'.cell? ⟨b, off + p * 3 + 2, none⟩ = some (.int .i64 X.q) ∧ w'.cell? ⟨n, 0, none⟩ = some (.int .i64 P.t) ∧ w'.cell? ⟨n, 1, none⟩ = some (.int .i64 P.v) ∧ w'.cell? ⟨n, 2, none⟩ = some (.int .i64 P.q))
        (first | exact HAT.out _ hkk.k.rd hkk.p | exact HAT.out _ hkb.k.rd hkb.p | exact HAT.out _ (hkk.stored _ _).1 (hkk.stored _ _).2 | go_keep)
        (first | (go_at_call 101; refine (HON.out _).mono ?_; rintro e wk ⟨rfl, hbk⟩; have hkk := VB.step hbk (by first | assumption | exact VB.drew (by assumption)); have t0 : wk.frozen? ⟨n + 1, 1, none⟩ = false := hkk.x.frozen 1; have t1 : wk.frozen? ⟨n + 1, 2, none⟩ = false := hkk.x.frozen 2; have t2 : wk.cell? ⟨n + 1, 1, none⟩ = some (.int .i64 P.v) := hkk.x.cell 1; have t3 : wk.cell? ⟨n + 1, 2, none⟩ = some (.int .i64 1) := hkk.x.cell 2; clear hbk))
      go_upto_region 9 with fail
      have hbk := hkk.k.be
      have hsr := hkk.stored (.int .i64 V.1) (.int .i64 V.2)
      have hx3 : Blk ((wk.setCell ⟨n + 1, 1, none⟩ (.int .i64 V.1)).setCell ⟨n + 1, 2, none⟩ (.int .i64 V.2)) (n + 1) 37 #[.int .i64 t, .int .i64 V.1, .int .i64 V.2, .int .i64 P.q] := ptSet2 hkk.x _ _
      have hb3 : Blk ((wk.setCell ⟨n + 1, 1, none⟩ (.int .i64 V.1)).setCell ⟨n + 1, 2, none⟩ (.int .i64 V.2)) w.heap.size 37 #[.int .i64 0, .int .i64 0, .int .i64 0, .int .i64 0] := (hkk.k.b.setOther (by simp; omega) _).setOther (by simp; omega) _
      have hbe3 : Below w.heap.size w ((wk.setCell ⟨n + 1, 1, none⟩ (.int .i64 V.1)).setCell ⟨n + 1, 2, none⟩ (.int .i64 V.2)) := (hbk.setCell (by simp; omega) _).setCell (by simp; omega) _
      obtain ⟨m0, m1, m2, q0, q1, q2⟩ := HAT.out _ hsr.1 hsr.2
      clear hkk t0 t1 t2 t3 hbk hsr
      generalize (wk.setCell ⟨n + 1, 1, none⟩ (.int .i64 V.1)).setCell ⟨n + 1, 2, none⟩ (.int .i64 V.2) = w5 at *
      have f3 : w5.frozen? ⟨n + 1, 3, none⟩ = false := hx3.frozen 3
      have y0 : w5.cell? ⟨n + 1, 0, none⟩ = some (.int .i64 t) := hx3.cell 0
      have y1 : w5.cell? ⟨n + 1, 1, none⟩ = some (.int .i64 V.1) := hx3.cell 1
      have y2 : w5.cell? ⟨n + 1, 2, none⟩ = some (.int .i64 V.2) := hx3.cell 2
      have y3 : w5.cell? ⟨n + 1, 3, none⟩ = some (.int .i64 P.q) := hx3.cell 3
      clear r0 r1 r2 r3 g0 g1 g2 g3 p0 p1 p2 x0 x1 x2 x3 hbe n0 n1 n2
      go_region
      clear y0 y1 y2 y3 f3
      generalize hQ : (if P.q < X.q then X.q else P.q) = Q at *
      have HQ := Lib.hid hQ
      clear hQ
      have hx4 : Blk (w5.setCell ⟨n + 1, 3, none⟩ (.int .i64 Q)).drew (n + 1) 37 #[.int .i64 t, .int .i64 V.1, .int .i64 V.2, .int .i64 Q] := ptSet3 hx3 _
      have hb4 : Blk (w5.setCell ⟨n + 1, 3, none⟩ (.int .i64 Q)).drew w.heap.size 37 #[.int .i64 0, .int .i64 0, .int .i64 0, .int .i64 0] := hb3.setOther (by simp; omega) _
      have hbe4 : Below w.heap.size w (w5.setCell ⟨n + 1, 3, none⟩ (.int .i64 Q)).drew := (hbe3.setCell (by simp; omega) _).drew
      generalize (w5.setCell ⟨n + 1, 3, none⟩ (.int .i64 Q)).drew = w6 at *
      have y0 : w6.cell? ⟨n + 1, 0, none⟩ = some (.int .i64 t) := hx4.cell 0
      have y1 : w6.cell? ⟨n + 1, 1, none⟩ = some (.int .i64 V.1) := hx4.cell 1
      have y2 : w6.cell? ⟨n + 1, 2, none⟩ = some (.int .i64 V.2) := hx4.cell 2
      have y3 : w6.cell? ⟨n + 1, 3, none⟩ = some (.int .i64 Q) := hx4.cell 3
      have r0 : w6.cell? ⟨w.heap.size, 0, none⟩ = some (.int .i64 0) := hb4.cell 0
      have r1 : w6.cell? ⟨w.heap.size, 1, none⟩ = some (.int .i64 0) := hb4.cell 1
      have r2 : w6.cell? ⟨w.heap.size, 2, none⟩ = some (.int .i64 0) := hb4.cell 2
      have r3 : w6.cell? ⟨w.heap.size, 3, none⟩ = some (.int .i64 0) := hb4.cell 3
      have g0 : w6.frozen? ⟨w.heap.size, 0, none⟩ = false := hb4.frozen 0
      have g1 : w6.frozen? ⟨w.heap.size, 1, none⟩ = false := hb4.frozen 1
      have g2 : w6.frozen? ⟨w.heap.size, 2, none⟩ = false := hb4.frozen 2
      have g3 : w6.frozen? ⟨w.heap.size, 3, none⟩ = false := hb4.frozen 3
      go_wp2_with fail
      refine bodyPost_ret (v := .tuple #[pntV t (some ⟨V.1, V.2, Q⟩), .bool true]) (by simp [results, Try.results55, go_sem, r0, r1, r2, r3, pntV]) rfl ⟨by rw [HO.out]; rfl, ?_⟩
      exact hbe4.trans (by (repeat (refine Below.setCell ?_ (by exact Nat.le_refl _) _)); exact Below.refl _ _)

theorem pntV_agg (t : Int) (O : Option Pnt) : ∃ a b c d : Int, pntV t O = .agg #[.int .i64 a, .int .i64 b, .int .i64 c, .int .i64 d] := by
  cases O with
  | none => exact ⟨0, 0, 0, 0, rfl⟩
  | some p => exact ⟨t, p.n, p.d, p.q, rfl⟩
def vatE (l : List Smp) (t : Int) : Int := if serErr l ≠ 0 then serErr l else if inB t 0 345686399999 = false then 1 else 0
def vatO (l : List Smp) (st : Bool) (t : Int) : Option Pnt := if vatE l t = 0 then valO l st t else none

set_option maxRecDepth 100000 in
set_option maxHeartbeats 4000000 in
theorem publicValueAt_any (v : Value) (l : List Smp) (st : Bool) (t : Int) (w : World) (hR : RdS w 57 v l) :
    Calls Try.prog 16 #[v, .bool st, .int .i64 t] w fun e w' => e = .returned (.tuple #[pntV t (vatO l st t), .bool (vatO l st t).isSome, .int .i64 (vatE l t)]) ∧ Below w.heap.size w w' := by
  have hE : vatE l t = if serErr l ≠ 0 then serErr l else if inB t 0 345686399999 = false then 1 else 0 := rfl
  have hO : vatO l st t = if vatE l t = 0 then valO l st t else none := rfl
  generalize vatO l st t = O at *
  generalize vatE l t = E at *
  have HE := Lib.hid hE
  have HO := Lib.hid hO
  have hk0 := VK.start w v l hR
  have HK0 := Lib.hid hk0
  clear hE hO hR hk0
  go_enter Try.func16, Try.ntmps16
  go_wp2_with fail
  refine (checkSeries_any v l _ HK0.out.rd).mono ?_
  rintro e w1 ⟨rfl, hb1⟩
  have hk := VK.step hb1 HK0.out
  clear HK0 hb1
  have r0 : w1.cell? ⟨w.heap.size, 0, none⟩ = some (.int .i64 0) := hk.b.cell 0
  have r1 : w1.cell? ⟨w.heap.size, 1, none⟩ = some (.int .i64 0) := hk.b.cell 1
  have r2 : w1.cell? ⟨w.heap.size, 2, none⟩ = some (.int .i64 0) := hk.b.cell 2
  have r3 : w1.cell? ⟨w.heap.size, 3, none⟩ = some (.int .i64 0) := hk.b.cell 3
  have g0 : w1.frozen? ⟨w.heap.size, 0, none⟩ = false := hk.b.frozen 0
  have g1 : w1.frozen? ⟨w.heap.size, 1, none⟩ = false := hk.b.frozen 1
  have g2 : w1.frozen? ⟨w.heap.size, 2, none⟩ = false := hk.b.frozen 2
  have g3 : w1.frozen? ⟨w.heap.size, 3, none⟩ = false := hk.b.frozen 3
  have hz := hk.b.lt
  have hbl := hk.be
  by_cases hS : serErr l = 0
  · have hS' : (serErr l != 0) = false := by simpa using hS
    have HS := Lib.hid hS
    clear hS
    go_wp2_with fail
    refine (moment_any t _).mono ?_
    rintro e w2 ⟨rfl, rfl⟩
    cases hT : inB t 0 345686399999
    · have hE1 : E = 1 := by rw [HE.out, if_neg (by rw [HS.out]; simp), if_pos hT]
      have HE1 := Lib.hid hE1
      clear hT hE1
      go_wp2_with fail
      refine bodyPost_ret (v := .tuple #[pntV t none, .bool false, .int .i64 1]) (by simp [results, Try.results16, go_sem, r0, r1, r2, r3, pntV]) rfl ⟨by rw [HO.out, if_neg (by rw [HE1.out]; omega), HE1.out]; rfl, ?_⟩
      exact hbl.trans (by (repeat (refine Below.setCell ?_ (by exact Nat.le_refl _) _)); exact Below.refl _ _)
    · have hE1 : E = 0 := by rw [HE.out, if_neg (by rw [HS.out]; simp), if_neg (by rw [hT]; simp)]
      have HE1 := Lib.hid hE1
      have hO1 : O = valO l st t := by rw [HO.out, if_pos hE1]
      have HO1 := Lib.hid hO1
      have hTT := inB_true.1 hT
      have hva := valueAt_any v l st t w1 hk.rd (serErr_rise HS.out) (serErr_good HS.out).1 (fun i _ => ⟨(serErr_vt HS.out i).2, (serErr_vt HS.out i).1⟩) (by omega)
      rw [← hO1] at hva
      obtain ⟨a, b', c, d, hp⟩ := pntV_agg t O
      rw [hp] at hva
      have HP := Lib.hid hp
      have HVA := Lib.hid hva
      clear hT hE1 hO1 hp hva
      go_wp2_with fail
      refine HVA.out.mono ?_
      rintro e w3 ⟨rfl, hb3⟩
      have hk3 := VK.step hb3 hk
      have hz3 := hk3.b.lt
      have hb4 : Blk (w3.alloc (.cells #[.int .i64 a, .int .i64 b', .int .i64 c, .int .i64 d] 37)) w.heap.size 37 #[.int .i64 0, .int .i64 0, .int .i64 0, .int .i64 0] := hk3.b.alloc _
      have hx4 := Blk.new w3 37 #[.int .i64 a, .int .i64 b', .int .i64 c, .int .i64 d]
      have hbe4 := hk3.be.alloc hk3.be.size (.cells #[.int .i64 a, .int .i64 b', .int .i64 c, .int .i64 d] 37)
      clear hb3 r0 r1 r2 r3 g0 g1 g2 g3 hk hbl hk3
      go_upto_region 7 with fail
      have hne : ¬ w3.heap.size = w.heap.size := by omega
      generalize w3.alloc (.cells #[.int .i64 a, .int .i64 b', .int .i64 c, .int .i64 d] 37) = w6 at *
      generalize w3.heap.size = n at *
      have y0 : w6.cell? ⟨n, 0, none⟩ = some (.int .i64 a) := hx4.cell 0
      have y1 : w6.cell? ⟨n, 1, none⟩ = some (.int .i64 b') := hx4.cell 1
      have y2 : w6.cell? ⟨n, 2, none⟩ = some (.int .i64 c) := hx4.cell 2
      have y3 : w6.cell? ⟨n, 3, none⟩ = some (.int .i64 d) := hx4.cell 3
      have r0 : w6.cell? ⟨w.heap.size, 0, none⟩ = some (.int .i64 0) := hb4.cell 0
      have r1 : w6.cell? ⟨w.heap.size, 1, none⟩ = some (.int .i64 0) := hb4.cell 1
      have r2 : w6.cell? ⟨w.heap.size, 2, none⟩ = some (.int .i64 0) := hb4.cell 2
      have r3 : w6.cell? ⟨w.heap.size, 3, none⟩ = some (.int .i64 0) := hb4.cell 3
      have g0 : w6.frozen? ⟨w.heap.size, 0, none⟩ = false := hb4.frozen 0
      have g1 : w6.frozen? ⟨w.heap.size, 1, none⟩ = false := hb4.frozen 1
      have g2 : w6.frozen? ⟨w.heap.size, 2, none⟩ = false := hb4.frozen 2
      have g3 : w6.frozen? ⟨w.heap.size, 3, none⟩ = false := hb4.frozen 3
      go_wp2_with fail
      refine bodyPost_ret (v := .tuple #[.agg #[.int .i64 a, .int .i64 b', .int .i64 c, .int .i64 d], .bool O.isSome, .int .i64 0]) (by simp [results, Try.results16, go_sem, r0, r1, r2, r3]) rfl ⟨by rw [HP.out, HE1.out], ?_⟩
      exact hbe4.trans (by (repeat (refine Below.setCell ?_ (by exact Nat.le_refl _) _)); exact Below.refl _ _)
  · have hS' : (serErr l != 0) = true := by simpa using hS
    have hE1 : E = serErr l := by rw [HE.out, if_pos hS]
    have HS := Lib.hid hS
    have HE1 := Lib.hid hE1
    clear hS hE1
    go_wp2_with fail
    refine bodyPost_ret (v := .tuple #[pntV t none, .bool false, .int .i64 (serErr l)]) (by simp [results, Try.results16, go_sem, r0, r1, r2, r3, pntV]) rfl ⟨by rw [HO.out, if_neg (by rw [HE1.out]; exact HS.out), HE1.out]; rfl, ?_⟩
    exact hbl.trans (by (repeat (refine Below.setCell ?_ (by exact Nat.le_refl _) _)); exact Below.refl _ _)
end Go.Proofs.Ytmcojidaimeijaa
