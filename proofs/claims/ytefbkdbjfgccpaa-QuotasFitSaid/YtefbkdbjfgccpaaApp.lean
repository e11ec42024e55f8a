/- Small laws: append of one sample, of one number, to a row of the call's own. -/
import Derived.Test.YtefbkdbjfgccpaaPick
import Derived.Test.YtefbkdbjfgccpaaBase
namespace Go.Proofs.Ytefbkdbjfgccpaa
open Go.RowKit
set_option linter.unusedVariables false
set_option linter.unusedSimpArgs false

theorem Blk.but {w w' : World} {b g : Nat} {t : TypeId} {cs : Array Value} (h : Blk w b t cs) (hb : But g w w') (hg : b ≠ g) : Blk w' b t cs := (hb.block b h.lt hg).trans h
theorem Strm.no {w : World} {g : Nat} {L : List Int} {A : Option Addr} {cap k : Nat} (h : Strm w g L A cap k) {e : TypeId} (he : e ≠ 25) (cur : Array Value) (fr : Nat × Nat) : w.heap[g]? ≠ some (Obj.cells cur e fr) := by
  rw [h.blk]
  intro hh
  injection hh with hh
  injection hh with _ hh
  exact he hh.symm
theorem own_but {w w' : World} {g base : Nat} {L : List Int} {A : Option Addr} {cap k : Nat} (hS : Strm w g L A cap k) {e : TypeId} (he : e ≠ 25) {size n : Nat} {v : Value} {xs : List Value} (h : w.ownsRow base e size v n xs)
    (hb : But g w w') : w'.ownsRow base e size v n xs :=
  own_keep h fun b cur fr hh => hb.block b (lt_of_heap hh) (fun ebg => by subst ebg; exact hS.no he cur fr hh)
theorem Rd.but {w w' : World} {g : Nat} {L : List Int} {A : Option Addr} {cap k : Nat} (hS : Strm w g L A cap k) {e : TypeId} (he : e ≠ 25) {size n : Nat} {v : Value} {xs : List Value} (h : Rd w e size v n xs)
    (hb : But g w w') : Rd w' e size v n xs :=
  h.keep fun b cur fr hh => hb.block b (lt_of_heap hh) (fun ebg => by subst ebg; exact hS.no he cur fr hh)
/-- A store above a stream leaves it. -/
theorem Strm.setCell {w : World} {g : Nat} {L : List Int} {A : Option Addr} {cap k : Nat} (h : Strm w g L A cap k) {p : Addr} (hp : g < p.block) (u : Value) : Strm (w.setCell p u) g L A cap k :=
  h.below (B := p.block) (((Below.refl _ _).setCell (Nat.le_refl _) u)) hp

theorem info_smp : (Try.prog.info? 56).map (fun i => (i.zero, i.size, i.bytes)) = some (some (.agg #[.int .i64 0, .int .i64 0, .int .i64 0]), 3, 24) := by kernel_rfl

/-- append of one sample that lies alone in block b. -/
theorem wpList_append_smp {w : World} {ops : Array Oper} {rest : List Oper} {o : Oper} {a : Act} {Q : Exit → Act → World → Prop} (hgd : o.guard = none) (s x : Operand)
    (ho : o.op = .call { callee := .builtin .append, args := #[s, x], argTypes := #[57, 57] })
    (base : Nat) (v : Value) (n : Nat) (l : List Smp) (hs : a.eval s = v) (hown : w.ownsRow base 56 3 v n (cellsOf l)) (b : Nat) (hx : a.eval x = .slice (some ⟨b, 0, none⟩) 1 1) (y : Smp)
    (hb : Blk w b 56 #[.int .i64 y.t, .int .i64 y.v, .int .i64 y.q]) (hn : n ≤ 100000000) (hbase : base ≤ w.heap.size)
    (h : ∀ v' w', w'.ownsRow base 56 3 v' (n + 1) (cellsOf (l ++ [y])) → w.grownBy w' v.ownBlock → wpList Try.prog ops Q rest (a.put o.dst v') w') : wpList Try.prog ops Q (o :: rest) a w := by
  obtain ⟨i0, hi0, hz0, hz1, hz2⟩ := info_parts info_smp
  refine wpList_append_own w hgd s x 57 ho base 56 i0 _ 3 24 Try.underlying57 hi0 hz0 hz1 hz2 rfl (by decide) v n _ hs hown ⟨b, 0, none⟩ 1 1 y.cells hx rfl ?_ ?_ ?_ ?_ hbase ?_
  · intro j u hu
    have hbb := hb.cell j
    have hj : j < 3 := by
      rcases Nat.lt_or_ge j 3 with hlt | hge
      · exact hlt
      · rw [List.getElem?_eq_none (by simp [Smp.cells]; exact hge)] at hu; cases hu
    have e1 : (⟨b, 0, none⟩ : Addr).add j = ⟨b, j, none⟩ := by unfold Addr.add; split <;> simp_all
    rw [e1, hbb, ← hu]
    simp [Smp.cells]
  · intro u hu
    simp [Smp.cells] at hu
    rcases hu with rfl | rfl | rfl <;> rfl
  · simp only [maxLen]; omega
  · omega
  · intro v' w' h1 h2 _
    exact h v' w' (by simpa using h1) h2
theorem Blk.new1 (w : World) (o : Obj) (t : TypeId) (cs : Array Value) : Blk ((w.alloc o).alloc (.cells cs t)) (w.heap.size + 1) t cs := by
  have := Blk.new (w.alloc o) t cs
  rwa [World.size_alloc] at this
/-- What turns nothing below the heap's size at the call's begin keeps 'Went'. -/
theorem Went.below {w w1 w2 : World} {g : Nat} {L : List Int} {A : Option Addr} {cap k : Nat} (hw : Went w g L A cap k w1) (hg : g < w.heap.size) (hb : Below w.heap.size w1 w2) : Went w g L A cap k w2 :=
  ⟨hw.1.below hb hg, hw.2.os.symm ▸ hb.os, hw.2.tape.symm ▸ hb.tape, hw.2.output.symm ▸ hb.output, Nat.le_trans hw.2.size hb.size, fun b h1 h2 => (hb.block b h1).trans (hw.2.block b h1 h2)⟩
theorem below_grown {w1 w2 : World} {B : Nat} {e : TypeId} {size n : Nat} {v : Value} {xs : List Value} (hown : w1.ownsRow B e size v n xs) (hB : B ≤ w1.heap.size) (hg : w1.grownBy w2 v.ownBlock) : Below B w1 w2 :=
  (Below.refl B w1).grown hg hB (fun k hk => (hown.lt k hk).1)
end Go.Proofs.Ytefbkdbjfgccpaa
