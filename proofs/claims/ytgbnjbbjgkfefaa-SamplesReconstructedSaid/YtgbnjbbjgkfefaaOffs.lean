/- The contracts of the reference's offs and ErrorOf. -/
import Derived.Test.YtgbnjbbjgkfefaaErrm
import Derived.Test.YtgbnjbbjgkfefaaLess
import Derived.Test.YtgbnjbbjgkfefaaRof
import Derived.Test.YtgbnjbbjgkfefaaFrcb
namespace Go.Proofs.Ytgbnjbbjgkfefaa
open Go.RowKit
set_option linter.unusedVariables false
set_option linter.unusedSimpArgs false

theorem info_bool : (Try.prog.info? 4).map (fun i => (i.zero, i.size, i.bytes)) = some (some (.bool false), 1, 1) := by kernel_rfl

/-- append of one bool that lies alone in block b. -/
theorem wpList_append_bool {w : World} {ops : Array Oper} {rest : List Oper} {o : Oper} {a : Act} {Q : Exit → Act → World → Prop} (hgd : o.guard = none) (s x : Operand)
    (ho : o.op = .call { callee := .builtin .append, args := #[s, x], argTypes := #[144, 144] })
    (base : Nat) (v : Value) (n : Nat) (l : List Bool) (hs : a.eval s = v) (hown : w.ownsRow base 4 1 v n (l.map Value.bool)) (b : Nat) (hx : a.eval x = .slice (some ⟨b, 0, none⟩) 1 1) (y : Bool)
    (hb : Blk w b 4 #[.bool y]) (hn : n ≤ 100000000) (hbase : base ≤ w.heap.size)
    (h : ∀ v' w', w'.ownsRow base 4 1 v' (n + 1) ((l ++ [y]).map Value.bool) → w.grownBy w' v.ownBlock → wpList Try.prog ops Q rest (a.put o.dst v') w') : wpList Try.prog ops Q (o :: rest) a w := by
  obtain ⟨i0, hi0, hz0, hz1, hz2⟩ := info_parts info_bool
  refine wpList_append_own w hgd s x 144 ho base 4 i0 _ 1 1 Try.underlying144 hi0 hz0 hz1 hz2 rfl (by decide) v n _ hs hown ⟨b, 0, none⟩ 1 1 [.bool y] hx rfl ?_ ?_ ?_ ?_ hbase ?_
  · intro j u hu
    have hj : j = 0 := by
      rcases Nat.eq_zero_or_pos j with h | h
      · exact h
      · rw [List.getElem?_eq_none (by simp; omega)] at hu; cases hu
    subst hj
    have e1 : (⟨b, 0, none⟩ : Addr).add 0 = ⟨b, 0, none⟩ := rfl
    rw [e1, hb.cell 0, ← hu]
    rfl
  · intro u hu
    simp at hu
    subst hu; rfl
  · simp only [maxLen]; omega
  · omega
  · intro v' w' h1 h2 _
    exact h v' w' (by simpa using h1) h2

/-- What offs has for sample i. -/
def offR (l K : List Smp) (i : Nat) : Int × Int := if hasI l K i = true then offV l K i else (0, 1)
def offL (l K : List Smp) (j : Nat) : List (Int × Int) := (List.range j).map (offR l K)
def hasL (l K : List Smp) (j : Nat) : List Bool := (List.range j).map (hasI l K)
theorem offL_step (l K : List Smp) (j : Nat) : offL l K (j + 1) = offL l K j ++ [offR l K j] := by simp [offL, List.range_succ]
theorem hasL_step (l K : List Smp) (j : Nat) : hasL l K (j + 1) = hasL l K j ++ [hasI l K j] := by simp [hasL, List.range_succ]

/-- A difference is in lowest terms. -/
theorem diffF_lowest (n : Int) (f : Int × Int) (h : Sane f) : fracOf (dist f.1 (n * f.2)) f.2 = diffF n f := by
  obtain ⟨h1, h2, h3⟩ := h
  have hg : Int.gcd (dist f.1 (n * f.2)) f.2 = 1 := by
    have hd1 : ((Int.gcd (dist f.1 (n * f.2)) f.2 : Nat) : Int) ∣ dist f.1 (n * f.2) := Int.gcd_dvd_left ..
    have hd2 : ((Int.gcd (dist f.1 (n * f.2)) f.2 : Nat) : Int) ∣ f.2 := Int.gcd_dvd_right ..
    have hd3 : ((Int.gcd (dist f.1 (n * f.2)) f.2 : Nat) : Int) ∣ n * f.2 := Int.dvd_mul_of_dvd_right hd2
    have hd4 : ((Int.gcd (dist f.1 (n * f.2)) f.2 : Nat) : Int) ∣ f.1 := by
      generalize ((Int.gcd (dist f.1 (n * f.2)) f.2 : Nat) : Int) = g at *
      unfold dist at hd1
      split at hd1
      · have := Int.dvd_add hd1 hd3
        rwa [Int.sub_add_cancel] at this
      · have := Int.dvd_sub hd3 hd1
        rwa [Int.sub_sub_self] at this
    have hd5 := Int.dvd_gcd hd4 hd2
    rw [h3] at hd5
    exact Nat.dvd_one.1 hd5
  have hc : dist f.1 (n * f.2) = dist (n * f.2) f.1 := by unfold dist; split <;> split <;> omega
  unfold fracOf diffF
  rw [hg, hc]
  simp
end Go.Proofs.Ytgbnjbbjgkfefaa
