/- The mathematics of alarms: what a sample says, runs, the windows in which an alarm is active. -/
import Derived.Test.YtdacdiigeainmaaSerr
import Derived.Test.YtdacdiigeainmaaSlim
namespace Go.Proofs.Ytdacdiigeainmaa
open Go.RowKit
set_option linter.unusedVariables false
set_option linter.unusedSimpArgs false

structure Alm where
  key : ByteArray
  tag : ByteArray
  kind : Int
  lim : Int
  dead : Int
  on : Int
  off : Int
  prio : Int
  lat : Bool
  par : ByteArray
def almCells (x : Alm) : Array Value := #[.string x.key, .string x.tag, .int .i64 x.kind, .int .i64 x.lim, .int .i64 x.dead, .int .i64 x.on, .int .i64 x.off, .int .i64 x.prio, .bool x.lat, .string x.par]

/-- What a sample says of an alarm: 1: the condition holds; 2: it is cleared; 0: neither. -/
def beyF (x : Alm) (s : Smp) : Int := if x.kind = 2 then -(s.v - x.lim) else s.v - x.lim
def sayF (x : Alm) (s : Smp) : Int :=
  if x.kind = 3 then (if s.q = 2 then 1 else 2)
  else if s.q = 2 then 0
  else if 0 < beyF x s then 1
  else if beyF x s ≤ -x.dead then 2 else 0
theorem sayF_range (x : Alm) (s : Smp) : 0 ≤ sayF x s ∧ sayF x s ≤ 2 := by
  unfold sayF
  split <;> (try split) <;> (try split) <;> (try split) <;> omega

/-- When the next sample is; u: there is none. -/
def endT (u : Int) : List Smp → Int
  | [] => u
  | y :: _ => y.t
def sameP (x : Alm) (c : Int) (r : List Smp) : List Smp := r.dropWhile fun y => decide (sayF x y = c)
theorem sameP_len (x : Alm) (c : Int) (r : List Smp) : (sameP x c r).length ≤ r.length := by
  unfold sameP
  induction r with
  | nil => simp
  | cons y r ih =>
    rw [List.dropWhile_cons]
    split
    · simp only [List.length_cons]; omega
    · exact Nat.le_refl _
/-- The runs of samples that say one thing: what, from when on, until when. -/
def runL (x : Alm) (u : Int) (l : List Smp) : List (Int × Int × Int) :=
  match l with
  | [] => []
  | s :: r => (sayF x s, s.t, endT u (sameP x (sayF x s) r)) :: runL x u (sameP x (sayF x s) r)
  termination_by l.length
  decreasing_by
    have := sameP_len x (sayF x s) r
    simp only [List.length_cons]; omega
theorem runL_nil (x : Alm) (u : Int) : runL x u [] = [] := by rw [runL.eq_def]
theorem runL_cons (x : Alm) (u : Int) (s : Smp) (r : List Smp) : runL x u (s :: r) = (sayF x s, s.t, endT u (sameP x (sayF x s) r)) :: runL x u (sameP x (sayF x s) r) := by rw [runL.eq_def]
theorem runL_len (x : Alm) (u : Int) (n : Nat) : ∀ l : List Smp, l.length ≤ n → (runL x u l).length ≤ l.length := by
  induction n with
  | zero =>
    intro l hl
    rw [List.eq_nil_of_length_eq_zero (by omega : l.length = 0), runL_nil]; simp
  | succ n ih =>
    intro l hl
    cases l with
    | nil => rw [runL_nil]; simp
    | cons s r =>
      rw [runL_cons]
      have h1 := sameP_len x (sayF x s) r
      simp only [List.length_cons] at *
      have := ih (sameP x (sayF x s) r) (by omega)
      omega

/-- The last window ends at b. -/
def setE (l : List (Int × Int)) (b : Int) : List (Int × Int) := l.set (l.length - 1) ((l.getD (l.length - 1) (0, 0)).1, b)
theorem setE_len (l : List (Int × Int)) (b : Int) : (setE l b).length = l.length := by simp [setE]
theorem setE_snoc (l : List (Int × Int)) (a b c : Int) : setE (l ++ [(a, b)]) c = l ++ [(a, c)] := by
  unfold setE
  have e : (l ++ [(a, b)]).length - 1 = l.length := by simp
  rw [e, List.getD_eq_getElem?_getD, List.getElem?_append_right (Nat.le_refl _), List.set_append_right _ _ (Nat.le_refl _)]
  simp
/-- What a run makes of the windows so far, and of whether the alarm is active. -/
def wstp (x : Alm) (u : Int) (S : Bool × List (Int × Int)) (r : Int × Int × Int) : Bool × List (Int × Int) :=
  if S.1 = false ∧ r.1 = 1 ∧ r.2.1 + x.on < r.2.2 then (true, S.2 ++ [(r.2.1 + x.on, u)])
  else if S.1 = true ∧ r.1 = 2 ∧ r.2.1 + x.off < r.2.2 then (false, setE S.2 (r.2.1 + x.off)) else S
def wndS (x : Alm) (u : Int) (r : List (Int × Int × Int)) : Bool × List (Int × Int) := r.foldl (wstp x u) (false, [])
theorem wndS_snoc (x : Alm) (u : Int) (r : List (Int × Int × Int)) (y : Int × Int × Int) : wndS x u (r ++ [y]) = wstp x u (wndS x u r) y := by simp [wndS]
theorem wstp_len (x : Alm) (u : Int) (S : Bool × List (Int × Int)) (y : Int × Int × Int) : (wstp x u S y).2.length ≤ S.2.length + 1 ∧ (0 < S.2.length → 0 < (wstp x u S y).2.length) ∧ (S.1 = true → 0 < S.2.length → True) := by
  unfold wstp
  split
  · simp
  · split
    · simp [setE_len]
    · simp
theorem wndS_act (x : Alm) (u : Int) (r : List (Int × Int × Int)) : (wndS x u r).2.length ≤ r.length ∧ ((wndS x u r).1 = true → 0 < (wndS x u r).2.length) := by
  suffices h : ∀ (S : Bool × List (Int × Int)) (k : Nat), S.2.length ≤ k → (S.1 = true → 0 < S.2.length) → (r.foldl (wstp x u) S).2.length ≤ k + r.length ∧ ((r.foldl (wstp x u) S).1 = true → 0 < (r.foldl (wstp x u) S).2.length) by
    have := h (false, []) 0 (by simp) (by simp)
    simpa [wndS] using this
  induction r with
  | nil => intro S k h1 h2; exact ⟨by simpa using h1, h2⟩
  | cons y r ih =>
    intro S k h1 h2
    have h3 : (wstp x u S y).2.length ≤ k + 1 := by have := (wstp_len x u S y).1; omega
    have h4 : (wstp x u S y).1 = true → 0 < (wstp x u S y).2.length := by
      unfold wstp
      split
      · simp
      · split
        · simp
        · exact h2
    have := ih _ (k + 1) h3 h4
    simp only [List.foldl_cons, List.length_cons]
    exact ⟨by omega, this.2⟩
/-- The windows in which an alarm is active before u. -/
def actL (x : Alm) (l : List Smp) (u : Int) : List (Int × Int) := (wndS x u (runL x u (l.take (posF l u)))).2
end Go.Proofs.Ytdacdiigeainmaa
