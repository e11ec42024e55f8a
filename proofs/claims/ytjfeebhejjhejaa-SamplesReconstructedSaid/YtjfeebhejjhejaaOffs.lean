/- The contracts of the reference's offs and ErrorOf. -/
import Derived.Test.YtjfeebhejjhejaaErrm
import Derived.Test.YtjfeebhejjhejaaLess
import Derived.Test.YtjfeebhejjhejaaRof
namespace Go.Proofs.Ytjfeebhejjhejaa
open Go.RowKit
set_option linter.unusedVariables false
set_option linter.unusedSimpArgs false

def fracCells (l : List (Int × Int)) : List Value := l.flatMap fun p => [.int .i64 p.1, .int .i64 p.2]
theorem fracCells_append (a b : List (Int × Int)) : fracCells (a ++ b) = fracCells a ++ fracCells b := by simp [fracCells]
theorem fracCells_length (l : List (Int × Int)) : (fracCells l).length = l.length * 2 := by
  induction l with
  | nil => rfl
  | cons x l ih => simp [fracCells] at ih ⊢; omega
theorem fracCells_get (l : List (Int × Int)) (i : Nat) (h : i < l.length) : (fracCells l)[i * 2]? = some (.int .i64 l[i].1) ∧ (fracCells l)[i * 2 + 1]? = some (.int .i64 l[i].2) := by
  induction l generalizing i with
  | nil => simp at h
  | cons x l ih =>
    cases i with
    | zero => simp [fracCells]
    | succ i =>
      have := ih i (by simpa using h)
      rw [show (i + 1) * 2 = i * 2 + 2 from by omega, show i * 2 + 2 + 1 = i * 2 + 1 + 2 from by omega]
      simpa [fracCells] using this
theorem info_frac : (Try.prog.info? 57).map (fun i => (i.zero, i.size, i.bytes)) = some (some (.agg #[.int .i64 0, .int .i64 0]), 2, 16) := by kernel_rfl
theorem info_bool : (Try.prog.info? 4).map (fun i => (i.zero, i.size, i.bytes)) = some (some (.bool false), 1, 1) := by kernel_rfl

/-- append of one fraction that lies alone in block b. -/
theorem wpList_append_frac {w : World} {ops : Array Oper} {rest : List Oper} {o : Oper} {a : Act} {Q : Exit → Act → World → Prop} (hgd : o.guard = none) (s x : Operand)
    (ho : o.op = .call { callee := .builtin .append, args := #[s, x], argTypes := #[100, 100] })
    (base : Nat) (v : Value) (n : Nat) (l : List (Int × Int)) (hs : a.eval s = v) (hown : w.ownsRow base 57 2 v n (fracCells l)) (b : Nat) (hx : a.eval x = .slice (some ⟨b, 0, none⟩) 1 1) (y : Int × Int)
    (hb : Blk w b 57 #[.int .i64 y.1, .int .i64 y.2]) (hn : n ≤ 100000000) (hbase : base ≤ w.heap.size)
    (h : ∀ v' w', w'.ownsRow base 57 2 v' (n + 1) (fracCells (l ++ [y])) → w.grownBy w' v.ownBlock → wpList Try.prog ops Q rest (a.put o.dst v') w') : wpList Try.prog ops Q (o :: rest) a w := by
  obtain ⟨i0, hi0, hz0, hz1, hz2⟩ := info_parts info_frac
  refine wpList_append_own w hgd s x 100 ho base 57 i0 _ 2 16 Try.underlying100 hi0 hz0 hz1 hz2 rfl (by decide) v n _ hs hown ⟨b, 0, none⟩ 1 1 (fracCells [y]) hx rfl ?_ ?_ ?_ ?_ hbase ?_
  · intro j u hu
    have hbb := hb.cell j
    have hj : j < 2 := by
      rcases Nat.lt_or_ge j 2 with hlt | hge
      · exact hlt
      · rw [List.getElem?_eq_none (by simp [fracCells]; exact hge)] at hu; cases hu
    have e1 : (⟨b, 0, none⟩ : Addr).add j = ⟨b, j, none⟩ := by unfold Addr.add; split <;> simp_all
    rw [e1, hbb, ← hu]
    simp [fracCells]
  · intro u hu
    simp [fracCells] at hu
    rcases hu with rfl | rfl <;> rfl
  · simp only [maxLen]; omega
  · omega
  · intro v' w' h1 h2 _
    exact h v' w' (by rw [fracCells_append]; exact h1) h2
/-- append of one bool that lies alone in block b. -/
theorem wpList_append_bool {w : World} {ops : Array Oper} {rest : List Oper} {o : Oper} {a : Act} {Q : Exit → Act → World → Prop} (hgd : o.guard = none) (s x : Operand)
    (ho : o.op = .call { callee := .builtin .append, args := #[s, x], argTypes := #[101, 101] })
    (base : Nat) (v : Value) (n : Nat) (l : List Bool) (hs : a.eval s = v) (hown : w.ownsRow base 4 1 v n (l.map Value.bool)) (b : Nat) (hx : a.eval x = .slice (some ⟨b, 0, none⟩) 1 1) (y : Bool)
    (hb : Blk w b 4 #[.bool y]) (hn : n ≤ 100000000) (hbase : base ≤ w.heap.size)
    (h : ∀ v' w', w'.ownsRow base 4 1 v' (n + 1) ((l ++ [y]).map Value.bool) → w.grownBy w' v.ownBlock → wpList Try.prog ops Q rest (a.put o.dst v') w') : wpList Try.prog ops Q (o :: rest) a w := by
  obtain ⟨i0, hi0, hz0, hz1, hz2⟩ := info_parts info_bool
  refine wpList_append_own w hgd s x 101 ho base 4 i0 _ 1 1 Try.underlying101 hi0 hz0 hz1 hz2 rfl (by decide) v n _ hs hown ⟨b, 0, none⟩ 1 1 [.bool y] hx rfl ?_ ?_ ?_ ?_ hbase ?_
  · intro j u hu
    have hj : j = 0 := by
      rcases Nat.eq_zero_or_pos j with h | h
      · exact h
      · rw [List.getElem?_eq_none (by simp; omega)] at hu; cases hu
    subst hj
    have e1 : (⟨b, 0, none⟩ : Addr).add 0 = ⟨b, 0, none⟩ := rfl
    rw [e1, hb.cell 0, ← hu]
    rfl
  · intro u hu
    simp at hu
    subst hu; rfl
  · simp only [maxLen]; omega
  · omega
  · intro v' w' h1 h2 _
    exact h v' w' (by simpa using h1) h2

/-- What offs has for sample i. -/
def offR (l K : List Smp) (i : Nat) : Int × Int := if hasI l K i = true then offV l K i else (0, 1)
def offL (l K : List Smp) (j : Nat) : List (Int × Int) := (List.range j).map (offR l K)
def hasL (l K : List Smp) (j : Nat) : List Bool := (List.range j).map (hasI l K)
theorem offL_step (l K : List Smp) (j : Nat) : offL l K (j + 1) = offL l K j ++ [offR l K j] := by simp [offL, List.range_succ]
theorem hasL_step (l K : List Smp) (j : Nat) : hasL l K (j + 1) = hasL l K j ++ [hasI l K j] := by simp [hasL, List.range_succ]

/-- A difference is in lowest terms. -/
theorem diffF_lowest (n : Int) (f : Int × Int) (h : Sane f) : fracOf (dist f.1 (n * f.2)) f.2 = diffF n f := by
  obtain ⟨h1, h2, h3⟩ := h
  have hg : Int.gcd (dist f.1 (n * f.2)) f.2 = 1 := by
    have hd1 : ((Int.gcd (dist f.1 (n * f.2)) f.2 : Nat) : Int) ∣ dist f.1 (n * f.2) := Int.gcd_dvd_left ..
    have hd2 : ((Int.gcd (dist f.1 (n * f.2)) f.2 : Nat) : Int) ∣ f.2 := Int.gcd_dvd_right ..
    have hd3 : ((Int.gcd (dist f.1 (n * f.2)) f.2 : Nat) : Int) ∣ n * f.2 := Int.dvd_mul_of_dvd_right hd2
    have hd4 : ((Int.gcd (dist f.1 (n * f.2)) f.2 : Nat) : Int) ∣ f.1 := by
      generalize ((Int.gcd (dist f.1 (n * f.2)) f.2 : Nat) : Int) = g at *
      unfold dist at hd1
      split at hd1
      · have := Int.dvd_add hd1 hd3
        rwa [Int.sub_add_cancel] at this
      · have := Int.dvd_sub hd3 hd1
        rwa [Int.sub_sub_self] at this
    have hd5 := Int.dvd_gcd hd4 hd2
    rw [h3] at hd5
    exact Nat.dvd_one.1 hd5
  have hc : dist f.1 (n * f.2) = dist (n * f.2) f.1 := by unfold dist; split <;> split <;> omega
  unfold fracOf diffF
  rw [hg, hc]
  simp
end Go.Proofs.Ytjfeebhejjhejaa
