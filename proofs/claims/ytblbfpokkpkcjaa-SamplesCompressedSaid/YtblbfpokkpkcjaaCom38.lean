import Derived.Test.YtblbfpokkpkcjaaCom32
import Derived.Laws.StructEq
import Derived.Test.YtblbfpokkpkcjaaCom04
import Derived.Deep.QuietTactic
import Derived.BigQuiet
import Derived.Test.YtblbfpokkpkcjaaCom34
import Derived.Test.YtblbfpokkpkcjaaCom35
import Derived.Test.YtblbfpokkpkcjaaCom37
/- pressed() is true: package compress reconstructs. -/

namespace Go.Proofs.Ytblbfpokkpkcjaa
open Go.RowKit
set_option linter.unusedVariables false
set_option linter.unusedSimpArgs false

theorem RdS.lit (w : World) (l : List Smp) (h : l.length ≤ 1000000) : RdS (w.alloc (.cells (cellsOf l).toArray 71)) 71 (.slice (some ⟨w.heap.size, 0, none⟩) l.length l.length) l :=
  ⟨cellsOf_length l, _, _, rfl, Nat.le_refl _, by simp only [maxLen]; omega, fun _ => ⟨w.heap.size, 0, _, _, rfl, heap_alloc_new w _, fun j hj => by simp⟩⟩
theorem frac_held : Try.prog.stoodInHeld 57 = false := by kernel_rfl
theorem frac_guard : Try.prog.eqGuardType Try.prog.depth 57 = false := by kernel_rfl
theorem frac_fields : (Try.prog.fieldsOf 57).toList.map (fun f => (f.name, f.type, f.offset)) = [("Num", 3, 0), ("Den", 3, 1)] := by kernel_rfl
theorem frac_under : Try.prog.underlying 57 = some (.struct (Try.prog.fieldsOf 57)) := by kernel_rfl
theorem fint_size : (Try.prog.info? 3).map (fun i => (i.zero, i.size, i.bytes)) = some (some (.int .i64 0), 1, 8) := by kernel_rfl
theorem ffields2 {fs : List Field} {a b : String × TypeId × Nat} (h : fs.map (fun f => (f.name, f.type, f.offset)) = [a, b]) :
    ∃ f g : Field, fs = [f, g] ∧ f.name = a.1 ∧ f.type = a.2.1 ∧ f.offset = a.2.2 ∧ g.name = b.1 ∧ g.type = b.2.1 ∧ g.offset = b.2.2 := by
  match fs, h with
  | [f, g], h =>
    simp only [List.map_cons, List.map_nil, List.cons.injEq, and_true] at h
    obtain ⟨h1, h2⟩ := h
    exact ⟨f, g, rfl, by rw [← h1], by rw [← h1], by rw [← h1], by rw [← h2], by rw [← h2], by rw [← h2]⟩
theorem frac_eqIn (w : World) (x y : Int × Int) : (Op.equalIn 10000 57 (.agg #[.int .i64 x.1, .int .i64 x.2]) (.agg #[.int .i64 y.1, .int .i64 y.2])).run Try.prog w = .ok (decide (x = y)) w := by
  obtain ⟨f, g, hf, f1, f2, f3, g1, g2, g3⟩ := ffields2 frac_fields
  obtain ⟨i0, hi0, hz0, hz1, hz2⟩ := info_parts fint_size
  obtain ⟨t, v⟩ := x
  obtain ⟨t', v'⟩ := y
  rw [run_equalIn_struct w 9999 57 _ _ frac_under frac_held, hf]
  simp [Op.eqFields, f1, f2, f3, g1, g2, g3, part, sizeOf, typeInfo, hi0, hz1, go_sem, Try.underlying3]
  by_cases h1 : t = t' <;> by_cases h2 : v = v' <;> simp [h1, h2, Result.andThen]

theorem pressed_E : rcE [⟨0, 0, 0⟩, ⟨4, 2, 0⟩] 1 = 0 := by
  simp [rcE, serErr, serFrom, smpErr, inB, notAfter]
theorem pressed_O : reconOf [⟨0, 0, 0⟩, ⟨4, 2, 0⟩] 1 = some (1, 2) := by
  simp [reconOf, posF, atS, lineAt, fracOf, Int.gcd]
theorem pressed_V : rcV [⟨0, 0, 0⟩, ⟨4, 2, 0⟩] 1 = (1, 2) := by
  simp [rcV, reconV, pressed_E, pressed_O]
theorem pressed_B : rcB [⟨0, 0, 0⟩, ⟨4, 2, 0⟩] 1 = true := by
  simp [rcB, reconB, pressed_E, pressed_O]

set_option maxRecDepth 100000 in
set_option maxHeartbeats 1000000 in
theorem pressed_any (w : World) : Calls Try.prog 22 #[] w fun e w' => e = .returned (.bool true) ∧ Below w.heap.size w w' := by
  have h1 : RdS (w.alloc (.cells #[.int .i64 0, .int .i64 0, .int .i64 0, .int .i64 4, .int .i64 2, .int .i64 0] 71)) 71 (.slice (some ⟨w.heap.size, 0, none⟩) 2 2) [⟨0, 0, 0⟩, ⟨4, 2, 0⟩] := RdS.lit w [⟨0, 0, 0⟩, ⟨4, 2, 0⟩] (by simp)
  have h2 := reconstruct_any _ _ 1 _ h1
  rw [pressed_E, pressed_V, pressed_B] at h2
  have H2 := Lib.hid h2
  have hgd := frac_guard
  have heq := frac_eqIn
  clear h1 h2
  go_enter Try.func22, Try.ntmps22
  go_wp2_with fail
  refine H2.out.mono ?_
  rintro e w1 ⟨rfl, hb⟩
  have hbw : Below w.heap.size w w1 := ((Below.refl _ w).alloc (Nat.le_refl _) _).trans (hb.mono (by simp))
  have hsz := hbw.size
  clear H2 hb
  go_wp2_with fail
  trace_state
  go_ret
  exact ⟨rfl, hbw.alloc hsz _⟩
end Go.Proofs.Ytblbfpokkpkcjaa

/- Slices of fractions: append of one, equality of one list. -/

namespace Go.Proofs.Ytblbfpokkpkcjaa
open Go.RowKit
set_option linter.unusedVariables false
set_option linter.unusedSimpArgs false

def fracCells (l : List (Int × Int)) : List Value := l.flatMap fun p => [.int .i64 p.1, .int .i64 p.2]
theorem fracCells_append (a b : List (Int × Int)) : fracCells (a ++ b) = fracCells a ++ fracCells b := by simp [fracCells]
theorem fracCells_length (l : List (Int × Int)) : (fracCells l).length = l.length * 2 := by
  induction l with
  | nil => rfl
  | cons x l ih => simp [fracCells] at ih ⊢; omega
theorem fracCells_get (l : List (Int × Int)) (i : Nat) (h : i < l.length) : (fracCells l)[i * 2]? = some (.int .i64 l[i].1) ∧ (fracCells l)[i * 2 + 1]? = some (.int .i64 l[i].2) := by
  induction l generalizing i with
  | nil => simp at h
  | cons x l ih =>
    cases i with
    | zero => simp [fracCells]
    | succ i =>
      have := ih i (by simpa using h)
      rw [show (i + 1) * 2 = i * 2 + 2 from by omega, show i * 2 + 2 + 1 = i * 2 + 1 + 2 from by omega]
      simpa [fracCells] using this
theorem info_frac : (Try.prog.info? 57).map (fun i => (i.zero, i.size, i.bytes)) = some (some (.agg #[.int .i64 0, .int .i64 0]), 2, 16) := by kernel_rfl
/-- append of one fraction that lies alone in block b. -/
theorem wpList_append_frac {w : World} {ops : Array Oper} {rest : List Oper} {o : Oper} {a : Act} {Q : Exit → Act → World → Prop} (hgd : o.guard = none) (s x : Operand)
    (ho : o.op = .call { callee := .builtin .append, args := #[s, x], argTypes := #[98, 98] })
    (base : Nat) (v : Value) (n : Nat) (l : List (Int × Int)) (hs : a.eval s = v) (hown : w.ownsRow base 57 2 v n (fracCells l)) (b : Nat) (hx : a.eval x = .slice (some ⟨b, 0, none⟩) 1 1) (y : Int × Int)
    (hb : Blk w b 57 #[.int .i64 y.1, .int .i64 y.2]) (hn : n ≤ 100000000) (hbase : base ≤ w.heap.size)
    (h : ∀ v' w', w'.ownsRow base 57 2 v' (n + 1) (fracCells (l ++ [y])) → w.grownBy w' v.ownBlock → wpList Try.prog ops Q rest (a.put o.dst v') w') : wpList Try.prog ops Q (o :: rest) a w := by
  obtain ⟨i0, hi0, hz0, hz1, hz2⟩ := info_parts info_frac
  refine wpList_append_own w hgd s x 98 ho base 57 i0 _ 2 16 Try.underlying98 hi0 hz0 hz1 hz2 rfl (by decide) v n _ hs hown ⟨b, 0, none⟩ 1 1 (fracCells [y]) hx rfl ?_ ?_ ?_ ?_ hbase ?_
  · intro j u hu
    have hbb := hb.cell j
    have hj : j < 2 := by
      rcases Nat.lt_or_ge j 2 with hlt | hge
      · exact hlt
      · rw [List.getElem?_eq_none (by simp [fracCells]; exact hge)] at hu; cases hu
    have e1 : (⟨b, 0, none⟩ : Addr).add j = ⟨b, j, none⟩ := by unfold Addr.add; split <;> simp_all
    rw [e1, hbb, ← hu]
    simp [fracCells]
  · intro u hu
    simp [fracCells] at hu
    rcases hu with rfl | rfl <;> rfl
  · simp only [maxLen]; omega
  · omega
  · intro v' w' h1 h2 _
    exact h v' w' (by rw [fracCells_append]; exact h1) h2

/-- A slice of fractions reads as l. -/
def RdF (w : World) (v : Value) (l : List (Int × Int)) : Prop := Rd w 57 2 v l.length (fracCells l)
theorem RdF.cells {w : World} {v : Value} {l : List (Int × Int)} (h : RdF w v l) (hn : 0 < l.length) :
    ∃ b off c, v = .slice (some ⟨b, off, none⟩) l.length c ∧ l.length ≤ c ∧ c ≤ maxLen ∧ b < w.heap.size ∧ ∀ i (hi : i < l.length), w.cell? ⟨b, off + i * 2, none⟩ = some (.int .i64 l[i].1) ∧ w.cell? ⟨b, off + i * 2 + 1, none⟩ = some (.int .i64 l[i].2) := by
  obtain ⟨b, off, c, hv, h2, h3, hlt, hc⟩ := Rd.cell h hn
  refine ⟨b, off, c, hv, h2, h3, hlt, fun i hi => ?_⟩
  obtain ⟨e1, e2⟩ := fracCells_get l i hi
  refine ⟨by rw [hc (i * 2) (by omega), e1], ?_⟩
  have := hc (i * 2 + 1) (by omega)
  rw [Nat.add_assoc, this, e2]
end Go.Proofs.Ytblbfpokkpkcjaa

/- The contracts of the reference's offs and ErrorOf. -/

namespace Go.Proofs.Ytblbfpokkpkcjaa
open Go.RowKit
set_option linter.unusedVariables false
set_option linter.unusedSimpArgs false

theorem info_bool : (Try.prog.info? 4).map (fun i => (i.zero, i.size, i.bytes)) = some (some (.bool false), 1, 1) := by kernel_rfl

/-- append of one bool that lies alone in block b. -/
theorem wpList_append_bool {w : World} {ops : Array Oper} {rest : List Oper} {o : Oper} {a : Act} {Q : Exit → Act → World → Prop} (hgd : o.guard = none) (s x : Operand)
    (ho : o.op = .call { callee := .builtin .append, args := #[s, x], argTypes := #[157, 157] })
    (base : Nat) (v : Value) (n : Nat) (l : List Bool) (hs : a.eval s = v) (hown : w.ownsRow base 4 1 v n (l.map Value.bool)) (b : Nat) (hx : a.eval x = .slice (some ⟨b, 0, none⟩) 1 1) (y : Bool)
    (hb : Blk w b 4 #[.bool y]) (hn : n ≤ 100000000) (hbase : base ≤ w.heap.size)
    (h : ∀ v' w', w'.ownsRow base 4 1 v' (n + 1) ((l ++ [y]).map Value.bool) → w.grownBy w' v.ownBlock → wpList Try.prog ops Q rest (a.put o.dst v') w') : wpList Try.prog ops Q (o :: rest) a w := by
  obtain ⟨i0, hi0, hz0, hz1, hz2⟩ := info_parts info_bool
  refine wpList_append_own w hgd s x 157 ho base 4 i0 _ 1 1 Try.underlying157 hi0 hz0 hz1 hz2 rfl (by decide) v n _ hs hown ⟨b, 0, none⟩ 1 1 [.bool y] hx rfl ?_ ?_ ?_ ?_ hbase ?_
  · intro j u hu
    have hj : j = 0 := by
      rcases Nat.eq_zero_or_pos j with h | h
      · exact h
      · rw [List.getElem?_eq_none (by simp; omega)] at hu; cases hu
    subst hj
    have e1 : (⟨b, 0, none⟩ : Addr).add 0 = ⟨b, 0, none⟩ := rfl
    rw [e1, hb.cell 0, ← hu]
    rfl
  · intro u hu
    simp at hu
    subst hu; rfl
  · simp only [maxLen]; omega
  · omega
  · intro v' w' h1 h2 _
    exact h v' w' (by simpa using h1) h2

/-- What offs has for sample i. -/
def offR (l K : List Smp) (i : Nat) : Int × Int := if hasI l K i = true then offV l K i else (0, 1)
def offL (l K : List Smp) (j : Nat) : List (Int × Int) := (List.range j).map (offR l K)
def hasL (l K : List Smp) (j : Nat) : List Bool := (List.range j).map (hasI l K)
theorem offL_step (l K : List Smp) (j : Nat) : offL l K (j + 1) = offL l K j ++ [offR l K j] := by simp [offL, List.range_succ]
theorem hasL_step (l K : List Smp) (j : Nat) : hasL l K (j + 1) = hasL l K j ++ [hasI l K j] := by simp [hasL, List.range_succ]

/-- A difference is in lowest terms. -/
theorem diffF_lowest (n : Int) (f : Int × Int) (h : Sane f) : fracOf (dist f.1 (n * f.2)) f.2 = diffF n f := by
  obtain ⟨h1, h2, h3⟩ := h
  have hg : Int.gcd (dist f.1 (n * f.2)) f.2 = 1 := by
    have hd1 : ((Int.gcd (dist f.1 (n * f.2)) f.2 : Nat) : Int) ∣ dist f.1 (n * f.2) := Int.gcd_dvd_left ..
    have hd2 : ((Int.gcd (dist f.1 (n * f.2)) f.2 : Nat) : Int) ∣ f.2 := Int.gcd_dvd_right ..
    have hd3 : ((Int.gcd (dist f.1 (n * f.2)) f.2 : Nat) : Int) ∣ n * f.2 := Int.dvd_mul_of_dvd_right hd2
    have hd4 : ((Int.gcd (dist f.1 (n * f.2)) f.2 : Nat) : Int) ∣ f.1 := by
      generalize ((Int.gcd (dist f.1 (n * f.2)) f.2 : Nat) : Int) = g at *
      unfold dist at hd1
      split at hd1
      · have := Int.dvd_add hd1 hd3
        rwa [Int.sub_add_cancel] at this
      · have := Int.dvd_sub hd3 hd1
        rwa [Int.sub_sub_self] at this
    have hd5 := Int.dvd_gcd hd4 hd2
    rw [h3] at hd5
    exact Nat.dvd_one.1 hd5
  have hc : dist f.1 (n * f.2) = dist (n * f.2) f.1 := by unfold dist; split <;> split <;> omega
  unfold fracOf diffF
  rw [hg, hc]
  simp
end Go.Proofs.Ytblbfpokkpkcjaa
