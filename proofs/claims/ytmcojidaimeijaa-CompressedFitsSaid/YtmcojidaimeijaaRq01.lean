import Derived.Test.YtmcojidaimeijaaSerr
import Derived.Test.YtmcojidaimeijaaSlim
import Derived.Test.YtmcojidaimeijaaDist
import Derived.StillTailTactics
import Derived.Deep.QuietTactic
import Derived.BigQuiet
import Derived.Deep.DeepCutAuto
/- The mathematics of alarms: what a sample says, runs, the windows in which an alarm is active. -/

namespace Go.Proofs.Ytmcojidaimeijaa
open Go.RowKit
set_option linter.unusedVariables false
set_option linter.unusedSimpArgs false

structure Alm where
  key : ByteArray
  tag : ByteArray
  kind : Int
  lim : Int
  dead : Int
  on : Int
  off : Int
  prio : Int
  lat : Bool
  par : ByteArray
def almCells (x : Alm) : Array Value := #[.string x.key, .string x.tag, .int .i64 x.kind, .int .i64 x.lim, .int .i64 x.dead, .int .i64 x.on, .int .i64 x.off, .int .i64 x.prio, .bool x.lat, .string x.par]

/-- What a sample says of an alarm: 1: the condition holds; 2: it is cleared; 0: neither. -/
def beyF (x : Alm) (s : Smp) : Int := if x.kind = 2 then -(s.v - x.lim) else s.v - x.lim
def sayF (x : Alm) (s : Smp) : Int :=
  if x.kind = 3 then (if s.q = 2 then 1 else 2)
  else if s.q = 2 then 0
  else if 0 < beyF x s then 1
  else if beyF x s ≤ -x.dead then 2 else 0
theorem sayF_range (x : Alm) (s : Smp) : 0 ≤ sayF x s ∧ sayF x s ≤ 2 := by
  unfold sayF
  split <;> (try split) <;> (try split) <;> (try split) <;> omega

/-- When the next sample is; u: there is none. -/
def endT (u : Int) : List Smp → Int
  | [] => u
  | y :: _ => y.t
def sameP (x : Alm) (c : Int) (r : List Smp) : List Smp := r.dropWhile fun y => decide (sayF x y = c)
theorem sameP_len (x : Alm) (c : Int) (r : List Smp) : (sameP x c r).length ≤ r.length := by
  unfold sameP
  induction r with
  | nil => simp
  | cons y r ih =>
    rw [List.dropWhile_cons]
    split
    · simp only [List.length_cons]; omega
    · exact Nat.le_refl _
/-- The runs of samples that say one thing: what, from when on, until when. -/
def runL (x : Alm) (u : Int) (l : List Smp) : List (Int × Int × Int) :=
  match l with
  | [] => []
  | s :: r => (sayF x s, s.t, endT u (sameP x (sayF x s) r)) :: runL x u (sameP x (sayF x s) r)
  termination_by l.length
  decreasing_by
    have := sameP_len x (sayF x s) r
    simp only [List.length_cons]; omega
theorem runL_nil (x : Alm) (u : Int) : runL x u [] = [] := by rw [runL.eq_def]
theorem runL_cons (x : Alm) (u : Int) (s : Smp) (r : List Smp) : runL x u (s :: r) = (sayF x s, s.t, endT u (sameP x (sayF x s) r)) :: runL x u (sameP x (sayF x s) r) := by rw [runL.eq_def]
theorem runL_len (x : Alm) (u : Int) (n : Nat) : ∀ l : List Smp, l.length ≤ n → (runL x u l).length ≤ l.length := by
  induction n with
  | zero =>
    intro l hl
    rw [List.eq_nil_of_length_eq_zero (by omega : l.length = 0), runL_nil]; simp
  | succ n ih =>
    intro l hl
    cases l with
    | nil => rw [runL_nil]; simp
    | cons s r =>
      rw [runL_cons]
      have h1 := sameP_len x (sayF x s) r
      simp only [List.length_cons] at *
      have := ih (sameP x (sayF x s) r) (by omega)
      omega

/-- The last window ends at b. -/
def setE (l : List (Int × Int)) (b : Int) : List (Int × Int) := l.set (l.length - 1) ((l.getD (l.length - 1) (0, 0)).1, b)
theorem setE_len (l : List (Int × Int)) (b : Int) : (setE l b).length = l.length := by simp [setE]
theorem setE_snoc (l : List (Int × Int)) (a b c : Int) : setE (l ++ [(a, b)]) c = l ++ [(a, c)] := by
  unfold setE
  have e : (l ++ [(a, b)]).length - 1 = l.length := by simp
  rw [e, List.getD_eq_getElem?_getD, List.getElem?_append_right (Nat.le_refl _), List.set_append_right _ _ (Nat.le_refl _)]
  simp
/-- What a run makes of the windows so far, and of whether the alarm is active. -/
def wstp (x : Alm) (u : Int) (S : Bool × List (Int × Int)) (r : Int × Int × Int) : Bool × List (Int × Int) :=
  if S.1 = false ∧ r.1 = 1 ∧ r.2.1 + x.on < r.2.2 then (true, S.2 ++ [(r.2.1 + x.on, u)])
  else if S.1 = true ∧ r.1 = 2 ∧ r.2.1 + x.off < r.2.2 then (false, setE S.2 (r.2.1 + x.off)) else S
def wndS (x : Alm) (u : Int) (r : List (Int × Int × Int)) : Bool × List (Int × Int) := r.foldl (wstp x u) (false, [])
theorem wndS_snoc (x : Alm) (u : Int) (r : List (Int × Int × Int)) (y : Int × Int × Int) : wndS x u (r ++ [y]) = wstp x u (wndS x u r) y := by simp [wndS]
theorem wstp_len (x : Alm) (u : Int) (S : Bool × List (Int × Int)) (y : Int × Int × Int) : (wstp x u S y).2.length ≤ S.2.length + 1 ∧ (0 < S.2.length → 0 < (wstp x u S y).2.length) ∧ (S.1 = true → 0 < S.2.length → True) := by
  unfold wstp
  split
  · simp
  · split
    · simp [setE_len]
    · simp
theorem wndS_act (x : Alm) (u : Int) (r : List (Int × Int × Int)) : (wndS x u r).2.length ≤ r.length ∧ ((wndS x u r).1 = true → 0 < (wndS x u r).2.length) := by
  suffices h : ∀ (S : Bool × List (Int × Int)) (k : Nat), S.2.length ≤ k → (S.1 = true → 0 < S.2.length) → (r.foldl (wstp x u) S).2.length ≤ k + r.length ∧ ((r.foldl (wstp x u) S).1 = true → 0 < (r.foldl (wstp x u) S).2.length) by
    have := h (false, []) 0 (by simp) (by simp)
    simpa [wndS] using this
  induction r with
  | nil => intro S k h1 h2; exact ⟨by simpa using h1, h2⟩
  | cons y r ih =>
    intro S k h1 h2
    have h3 : (wstp x u S y).2.length ≤ k + 1 := by have := (wstp_len x u S y).1; omega
    have h4 : (wstp x u S y).1 = true → 0 < (wstp x u S y).2.length := by
      unfold wstp
      split
      · simp
      · split
        · simp
        · exact h2
    have := ih _ (k + 1) h3 h4
    simp only [List.foldl_cons, List.length_cons]
    exact ⟨by omega, this.2⟩
/-- The windows in which an alarm is active before u. -/
def actL (x : Alm) (l : List Smp) (u : Int) : List (Int × Int) := (wndS x u (runL x u (l.take (posF l u)))).2
end Go.Proofs.Ytmcojidaimeijaa

/- The contracts of says, and of the function that asks whether a sample says something else (package alarm). -/

namespace Go.Proofs.Ytmcojidaimeijaa
open Go.RowKit
set_option linter.unusedVariables false
set_option linter.unusedSimpArgs false

/-- An alarm whose numbers are within bounds. -/
def AlmIn (x : Alm) : Prop := (-1000000 ≤ x.lim ∧ x.lim ≤ 1000000) ∧ (0 ≤ x.dead ∧ x.dead ≤ 2000000) ∧ (0 ≤ x.on ∧ x.on ≤ 86400000) ∧ (0 ≤ x.off ∧ x.off ≤ 86400000)

set_option maxRecDepth 100000 in
set_option maxHeartbeats 2000000 in
theorem says_eq (x : Alm) (s : Smp) (w : World) (hx : AlmIn x) (hs : -1000000 ≤ s.v ∧ s.v ≤ 1000000) :
    Calls Try.prog 143 #[.agg (almCells x), .agg #[.int .i64 s.t, .int .i64 s.v, .int .i64 s.q]] w fun e w' => e = .returned (.int .i64 (sayF x s)) ∧ w' = (w.alloc (.cells (almCells x) 106)).alloc (.cells #[.int .i64 s.t, .int .i64 s.v, .int .i64 s.q] 57) := by
  obtain ⟨key, tag, kind, lim, dead, on, off, prio, lat, par⟩ := x
  obtain ⟨h1, h2, h3, h4⟩ := hx
  simp only at h1 h2 h3 h4
  have hE : sayF ⟨key, tag, kind, lim, dead, on, off, prio, lat, par⟩ s = if kind = 3 then (if s.q = 2 then 1 else 2) else if s.q = 2 then 0 else if 0 < (if kind = 2 then -(s.v - lim) else s.v - lim) then 1 else if (if kind = 2 then -(s.v - lim) else s.v - lim) ≤ -dead then 2 else 0 := rfl
  generalize sayF ⟨key, tag, kind, lim, dead, on, off, prio, lat, par⟩ s = E at *
  have HE := Lib.hid hE
  clear hE
  simp only [almCells]
  show Calls _ _ #[.agg #[.string key, .string tag, .int .i64 kind, .int .i64 lim, .int .i64 dead, .int .i64 on, .int .i64 off, .int .i64 prio, .bool lat, .string par], _] _ _
  have ba := (Blk.new w 106 #[.string key, .string tag, .int .i64 kind, .int .i64 lim, .int .i64 dead, .int .i64 on, .int .i64 off, .int .i64 prio, .bool lat, .string par]).alloc (.cells #[.int .i64 s.t, .int .i64 s.v, .int .i64 s.q] 57)
  have bs := Blk.new1 w (.cells #[.string key, .string tag, .int .i64 kind, .int .i64 lim, .int .i64 dead, .int .i64 on, .int .i64 off, .int .i64 prio, .bool lat, .string par] 106) 57 #[.int .i64 s.t, .int .i64 s.v, .int .i64 s.q]
  by_cases hk3 : kind = 3
  · have k3 : (kind == 3) = true := by simpa using hk3
    by_cases hq : s.q = 2
    · have q2 : (s.q == 2) = true := by simpa using hq
      have HX := Lib.hid (show E = 1 by rw [HE.out, if_pos hk3, if_pos hq])
      clear hk3 hq HE
      go_enter Try.func143, Try.ntmps143
      go_upto_region 1 with fail
      generalize hw1 : (w.alloc (.cells #[.string key, .string tag, .int .i64 kind, .int .i64 lim, .int .i64 dead, .int .i64 on, .int .i64 off, .int .i64 prio, .bool lat, .string par] 106)).alloc (.cells #[.int .i64 s.t, .int .i64 s.v, .int .i64 s.q] 57) = w1 at *
      have HW1 := Lib.hid hw1
      clear hw1
      have c0 := ba.cell 2
      have c1 := bs.cell 2
      go_wp2_with fail
      go_ret
      exact ⟨ret_int (by rw [HX.out]), HW1.out.symm⟩
    · have q2 : (s.q == 2) = false := by simpa using hq
      have HX := Lib.hid (show E = 2 by rw [HE.out, if_pos hk3, if_neg hq])
      clear hk3 hq HE
      go_enter Try.func143, Try.ntmps143
      go_upto_region 1 with fail
      generalize hw1 : (w.alloc (.cells #[.string key, .string tag, .int .i64 kind, .int .i64 lim, .int .i64 dead, .int .i64 on, .int .i64 off, .int .i64 prio, .bool lat, .string par] 106)).alloc (.cells #[.int .i64 s.t, .int .i64 s.v, .int .i64 s.q] 57) = w1 at *
      have HW1 := Lib.hid hw1
      clear hw1
      have c0 := ba.cell 2
      have c1 := bs.cell 2
      go_wp2_with fail
      go_ret
      exact ⟨ret_int (by rw [HX.out]), HW1.out.symm⟩
  · have k3 : (kind == 3) = false := by simpa using hk3
    have HE2 := Lib.hid (show E = if s.q = 2 then 0 else if 0 < (if kind = 2 then -(s.v - lim) else s.v - lim) then 1 else if (if kind = 2 then -(s.v - lim) else s.v - lim) ≤ -dead then 2 else 0 by rw [HE.out, if_neg hk3])
    clear HE hk3
    by_cases hq : s.q = 2
    · have q2 : (s.q == 2) = true := by simpa using hq
      have HX := Lib.hid (show E = 0 by rw [HE2.out, if_pos hq])
      clear hq HE2
      go_enter Try.func143, Try.ntmps143
      go_upto_region 1 with fail
      generalize hw1 : (w.alloc (.cells #[.string key, .string tag, .int .i64 kind, .int .i64 lim, .int .i64 dead, .int .i64 on, .int .i64 off, .int .i64 prio, .bool lat, .string par] 106)).alloc (.cells #[.int .i64 s.t, .int .i64 s.v, .int .i64 s.q] 57) = w1 at *
      have HW1 := Lib.hid hw1
      clear hw1
      have c0 := ba.cell 2
      have c1 := bs.cell 2
      go_wp2_with fail
      go_ret
      exact ⟨ret_int (by rw [HX.out]), HW1.out.symm⟩
    · have q2 : (s.q == 2) = false := by simpa using hq
      have HE3 := Lib.hid (show E = if 0 < (if kind = 2 then -(s.v - lim) else s.v - lim) then 1 else if (if kind = 2 then -(s.v - lim) else s.v - lim) ≤ -dead then 2 else 0 by rw [HE2.out, if_neg hq])
      clear hq HE2
      have wr1 : IntKind.i64.wrap (s.v - lim) = s.v - lim := IntWalk.i64_in _ (by omega)
      by_cases hk2 : kind = 2
      · have k2 : (kind == 2) = true := by simpa using hk2
        rw [if_pos hk2] at HE3
        clear hk2
        go_enter Try.func143, Try.ntmps143
        go_upto_region 1 with fail
        generalize hw1 : (w.alloc (.cells #[.string key, .string tag, .int .i64 kind, .int .i64 lim, .int .i64 dead, .int .i64 on, .int .i64 off, .int .i64 prio, .bool lat, .string par] 106)).alloc (.cells #[.int .i64 s.t, .int .i64 s.v, .int .i64 s.q] 57) = w1 at *
        have HW1 := Lib.hid hw1
        clear hw1
        have c0 := ba.cell 2
        have c1 := bs.cell 2
        have c2 := bs.cell 1
        have c3 := ba.cell 3
        have c4 := ba.cell 4
        go_upto_region 11 with fail
        have hBb : -2000000 ≤ -(s.v - lim) ∧ -(s.v - lim) ≤ 2000000 := by omega
        generalize -(s.v - lim) = B at *
        clear wr1
        by_cases hp : 0 < B
        · have HX := Lib.hid (show E = 1 by rw [HE3.out, if_pos hp])
          clear HE3
          go_wp2_with fail
          go_ret
          exact ⟨ret_int (by rw [HX.out]), HW1.out.symm⟩
        · by_cases hn : B ≤ -dead
          · have HX := Lib.hid (show E = 2 by rw [HE3.out, if_neg hp, if_pos hn])
            clear HE3
            go_wp2_with fail
            go_ret
            exact ⟨ret_int (by rw [HX.out]), HW1.out.symm⟩
          · have HX := Lib.hid (show E = 0 by rw [HE3.out, if_neg hp, if_neg hn])
            clear HE3
            go_wp2_with fail
            go_ret
            exact ⟨ret_int (by rw [HX.out]), HW1.out.symm⟩
      · have k2 : (kind == 2) = false := by simpa using hk2
        rw [if_neg hk2] at HE3
        clear hk2
        go_enter Try.func143, Try.ntmps143
        go_upto_region 1 with fail
        generalize hw1 : (w.alloc (.cells #[.string key, .string tag, .int .i64 kind, .int .i64 lim, .int .i64 dead, .int .i64 on, .int .i64 off, .int .i64 prio, .bool lat, .string par] 106)).alloc (.cells #[.int .i64 s.t, .int .i64 s.v, .int .i64 s.q] 57) = w1 at *
        have HW1 := Lib.hid hw1
        clear hw1
        have c0 := ba.cell 2
        have c1 := bs.cell 2
        have c2 := bs.cell 1
        have c3 := ba.cell 3
        have c4 := ba.cell 4
        go_upto_region 11 with fail
        have hBb : -2000000 ≤ (s.v - lim) ∧ (s.v - lim) ≤ 2000000 := by omega
        generalize (s.v - lim) = B at *
        clear wr1
        by_cases hp : 0 < B
        · have HX := Lib.hid (show E = 1 by rw [HE3.out, if_pos hp])
          clear HE3
          go_wp2_with fail
          go_ret
          exact ⟨ret_int (by rw [HX.out]), HW1.out.symm⟩
        · by_cases hn : B ≤ -dead
          · have HX := Lib.hid (show E = 2 by rw [HE3.out, if_neg hp, if_pos hn])
            clear HE3
            go_wp2_with fail
            go_ret
            exact ⟨ret_int (by rw [HX.out]), HW1.out.symm⟩
          · have HX := Lib.hid (show E = 0 by rw [HE3.out, if_neg hp, if_neg hn])
            clear HE3
            go_wp2_with fail
            go_ret
            exact ⟨ret_int (by rw [HX.out]), HW1.out.symm⟩

theorem says_any (x : Alm) (s : Smp) (w : World) (hx : AlmIn x) (hs : -1000000 ≤ s.v ∧ s.v ≤ 1000000) :
    Calls Try.prog 143 #[.agg (almCells x), .agg #[.int .i64 s.t, .int .i64 s.v, .int .i64 s.q]] w fun e w' => e = .returned (.int .i64 (sayF x s)) ∧ Below w.heap.size w w' := by
  refine (says_eq x s w hx hs).mono ?_
  rintro e w' ⟨rfl, rfl⟩
  exact ⟨rfl, ((Below.refl _ w).alloc (Nat.le_refl _) _).alloc (by simp) _⟩
theorem enter_runs11 (args : Array Value) (w : World) : (callFunc 145 args).run Try.prog w = .ok (.enter 145 args) w := by kernel_rfl
set_option maxRecDepth 100000 in
set_option maxHeartbeats 2000000 in
theorem runs11_any (x : Alm) (s : Smp) (bx bw : Nat) (c : Int) (w : World) (hx : AlmIn x) (hs : -1000000 ≤ s.v ∧ s.v ≤ 1000000) (hX : Blk w bx 106 (almCells x)) (hW : Blk w bw 3 #[.int .i64 c]) :
    Calls Try.prog 145 #[.agg #[.int .i64 s.t, .int .i64 s.v, .int .i64 s.q], .pointer (some ⟨bx, 0, none⟩), .pointer (some ⟨bw, 0, none⟩)] w fun e w' => e = .returned (.bool (decide (sayF x s ≠ c))) ∧ Below w.heap.size w w' := by
  have hSY := fun W => says_any x s W hx hs
  obtain ⟨key, tag, kind, lim, dead, on, off, prio, lat, par⟩ := x
  have hbe : Below w.heap.size w (w.alloc (.cells #[.int .i64 s.t, .int .i64 s.v, .int .i64 s.q] 57)) := (Below.refl _ w).alloc (Nat.le_refl _) _
  have bs := Blk.new w 57 #[.int .i64 s.t, .int .i64 s.v, .int .i64 s.q]
  have bX := hX.alloc (.cells #[.int .i64 s.t, .int .i64 s.v, .int .i64 s.q] 57)
  have bW := hW.alloc (.cells #[.int .i64 s.t, .int .i64 s.v, .int .i64 s.q] 57)
  have hE : decide (sayF ⟨key, tag, kind, lim, dead, on, off, prio, lat, par⟩ s ≠ c) = (sayF ⟨key, tag, kind, lim, dead, on, off, prio, lat, par⟩ s != c) := by rw [Bool.eq_iff_iff]; simp
  rw [hE]
  simp only [almCells] at hSY bX
  generalize sayF ⟨key, tag, kind, lim, dead, on, off, prio, lat, par⟩ s = Y at *
  clear hE hX hW
  go_enter Try.func145, Try.ntmps145
  go_upto_region 1 with fail
  generalize w.alloc (.cells #[.int .i64 s.t, .int .i64 s.v, .int .i64 s.q] 57) = w1 at *
  have a0 := bX.cell 0
  have a1 := bX.cell 1
  have a2 := bX.cell 2
  have a3 := bX.cell 3
  have a4 := bX.cell 4
  have a5 := bX.cell 5
  have a6 := bX.cell 6
  have a7 := bX.cell 7
  have a8 := bX.cell 8
  have a9 := bX.cell 9
  have s0 := bs.cell 0
  have s1 := bs.cell 1
  have s2 := bs.cell 2
  have d0 := bW.cell 0
  go_region_with (go_at_call 143; (with_reducible refine (hSY _).mono ?_); rintro e w2 ⟨rfl, hb2⟩; have d1 : w2.cell? ⟨bw, 0, none⟩ = some (.int .i64 c) := (by first | exact (bW.below hb2 bW.lt).cell 0 | exact (Blk.below (Blk.drew bW) hb2 bW.lt).cell 0); have hbz : Below w.heap.size w w2 := (by first | exact hbe.trans (hb2.mono hbe.size) | exact hbe.drew.trans (hb2.mono hbe.drew.size)))
  all_goals go_wp2_with fail
  all_goals go_ret
  all_goals first | exact ⟨rfl, hbz⟩ | exact ⟨rfl, hbz.drew⟩
end Go.Proofs.Ytmcojidaimeijaa

/- slices.IndexFunc over the function that asks whether a sample says something else of an alarm. -/

namespace Go.Proofs.Ytmcojidaimeijaa
open Go.RowKit
set_option linter.unusedVariables false
set_option linter.unusedSimpArgs false

/-- The index of the first sample that says something else; -1: there is none. -/
def idxP (x : Alm) (c : Int) (l : List Smp) : Int := if sameP x c l = [] then -1 else (l.length : Int) - ((sameP x c l).length : Int)
theorem sameP_drop (x : Alm) (c : Int) (l : List Smp) (j : Nat) (hj : j < l.length) : sameP x c (l.drop j) = if sayF x (atS l j) = c then sameP x c (l.drop (j + 1)) else l.drop j := by
  rw [List.drop_eq_getElem_cons hj, atS_eq l j hj]
  unfold sameP
  rw [List.dropWhile_cons]
  by_cases h : sayF x (atS l j) = c <;> simp [h]
theorem drop_long (l : List Smp) (j : Nat) (hj : j < l.length) : (l.drop j).length = l.length - j ∧ l.drop j ≠ [] := by
  refine ⟨by simp, fun h => ?_⟩
  have := congrArg List.length h
  simp at this; omega

set_option maxRecDepth 100000 in
set_option maxHeartbeats 2000000 in
theorem indexA_any (x : Alm) (c : Int) (bx bw : Nat) (v : Value) (l : List Smp) (w : World) (hR : RdS w 57 v l) (hlong : l.length ≤ 5000) (hx : AlmIn x) (hl : ∀ i, i < l.length → -1000000 ≤ (atS l i).v ∧ (atS l i).v ≤ 1000000)
    (hX : Blk w bx 106 (almCells x)) (hW : Blk w bw 3 #[.int .i64 c]) :
    Calls Try.prog 144 #[v, .func (.func 145) #[] #[.pointer (some ⟨bx, 0, none⟩), .pointer (some ⟨bw, 0, none⟩)]] w fun e w' => e = .returned (.int .i64 (idxP x c l)) ∧ Below w.heap.size w w' := by
  have HP := Lib.hid (fun (i : Nat) (hi : i < l.length) (W : World) (hb : Below w.heap.size w W) => runs11_any x (atS l i) bx bw c W hx (hl i hi) (hX.below hb hX.lt) (hW.below hb hW.lt))
  have hcf := enter_runs11
  obtain ⟨pa, ca, rfl⟩ := hR.lenv
  have HR := Lib.hid hR
  clear hR hX hW hl
  go_enter Try.func144, Try.ntmps144
  go_wp2_with fail
  go_loopw [8] (fun si wr => ∃ j : Nat, j ≤ l.length ∧ si = .int .i64 (j : Int) ∧ sameP x c (l.drop j) = sameP x c l ∧ Below w.heap.size w wr) (fun si _ => l.length - (intOf si).toNat)
  case atStart => exact ⟨0, by omega, rfl, by simp, Below.refl _ _⟩
  case round =>
    obtain ⟨j, hj, rfl, hidx, hbr⟩ := hrel
    have HIDX := Lib.hid hidx
    clear hidx
    by_cases hlt : j < l.length
    · have hRr : RdS wr 57 (.slice pa l.length ca) l := Rd.below HR.out hbr
      obtain ⟨b, off, c', hv, hc1, hc2, hblt, hcell⟩ := RdS.at_ hRr (by omega)
      simp only [Value.slice.injEq, true_and] at hv
      obtain ⟨rfl, rfl⟩ := hv
      obtain ⟨c0, c1', c2⟩ := hcell j hlt
      have hstep := sameP_drop x c l j hlt
      have hcall := HP.out j hlt _ hbr
      have hdl := drop_long l j hlt
      have HDL := Lib.hid hdl
      have HSTEP := Lib.hid hstep
      generalize atS l j = y at *
      generalize sayF x y = Y at *
      have HC := Lib.hid hcall
      clear hcell hRr hstep hcall hdl
      unfold maxLen at hc2
      by_cases hY : Y = c
      · have hd : decide (Y ≠ c) = false := by simpa using hY
        rw [hd] at HC
        have HS := Lib.hid (show sameP x c (l.drop (j + 1)) = sameP x c l by rw [← HIDX.out, HSTEP.out, if_pos hY])
        clear hY hd
        go_wp2_with fail
        refine HC.out.mono ?_
        rintro e w2 ⟨rfl, hb2⟩
        go_wp2_with fail
        go_roundw
        case rel => exact ⟨j + 1, by omega, by go_num, HS.out, hbr.trans (hb2.mono hbr.size)⟩
        case measure => simp [intOf]; omega
      · have hd : decide (Y ≠ c) = true := by simpa using hY
        rw [hd] at HC
        have HS := Lib.hid (show idxP x c l = (j : Int) by
          have h1 : sameP x c l = l.drop j := by rw [← HIDX.out, HSTEP.out, if_neg hY]
          unfold idxP
          rw [h1, if_neg HDL.out.2, HDL.out.1]
          omega)
        clear hY hd
        go_wp2_with fail
        refine HC.out.mono ?_
        rintro e w2 ⟨rfl, hb2⟩
        go_wp2_with fail
        go_ret
        exact ⟨ret_int (by rw [HS.out]), hbr.trans (hb2.mono hbr.size)⟩
    · obtain rfl : j = l.length := by omega
      have HS := Lib.hid (show idxP x c l = -1 by
        unfold idxP
        rw [if_pos (by rw [← HIDX.out]; simp [sameP])])
      go_wp2_with fail
      go_ret
      exact ⟨ret_int (by rw [HS.out]), hbr⟩
end Go.Proofs.Ytmcojidaimeijaa
