/- Whether a sample is bad, asked of all by slices.ContainsFunc; the mathematics of a high alarm without deadband and delays: it is active where the value is above the limit. -/
import Derived.Test.YtjoknaglhahbaaaHia
import Derived.Test.YtjoknaglhahbaaaAbm
namespace Go.Proofs.Ytjoknaglhahbaaa
open Go.RowKit
set_option linter.unusedVariables false
set_option linter.unusedSimpArgs false

/-- Stretches of a list of samples, one for each, until u. -/
def strR (u : Int) : List Smp → List Str
  | [] => []
  | s :: r => ⟨s.t, endT u r, s⟩ :: strR u r
theorem strR_append (u : Int) (a b : List Smp) : strR u (a ++ b) = strR (endT u b) a ++ strR u b := by
  induction a with
  | nil => rfl
  | cons s a ih =>
    have h : endT u (a ++ b) = endT (endT u b) a := by cases a <;> rfl
    simp only [List.cons_append, strR, ih, h]
/-- All windows before the last one, and the last one. -/
theorem jnF_snoc_far {A : List (Int × Int)} {a b p q : Int} (h : p < a) : jnF (A ++ [(q, p)]) a b = A ++ [(q, p)] ++ [(a, b)] := by
  unfold jnF
  rw [if_pos]
  right
  have e : (A ++ [(q, p)]).length - 1 = A.length := by simp
  rw [e, List.getD_eq_getElem?_getD, List.getElem?_append_right (Nat.le_refl _)]
  simpa using h
theorem jnF_snoc_near {A : List (Int × Int)} {b p q : Int} : jnF (A ++ [(q, p)]) p b = A ++ [(q, b)] := by
  have e : (A ++ [(q, p)]).length - 1 = A.length := by simp
  have g : (A ++ [(q, p)]).getD A.length (0, 0) = (q, p) := by
    rw [List.getD_eq_getElem?_getD, List.getElem?_append_right (Nat.le_refl _)]; simp
  unfold jnF
  rw [e, g, if_neg (by simp), List.set_append_right _ _ (Nat.le_refl _)]
  simp
theorem jnF_nil (a b : Int) : jnF [] a b = [(a, b)] := by unfold jnF; simp

def sumW (l : List (Int × Int)) : Int := l.foldl (fun n w => n + (w.2 - w.1)) 0
theorem sumW_snoc (l : List (Int × Int)) (w : Int × Int) : sumW (l ++ [w]) = sumW l + (w.2 - w.1) := by simp [sumW]

/-- All samples of a part are above the limit: the last window grows. -/
theorem abo_high (L : Int) (P : List Smp) : ∀ (v : Int) (A : List (Int × Int)) (q S : Int), (∀ s ∈ P, L < s.v) →
    (strR v P).foldl (fun A x => abT L A x.s.v x.a x.b) (A ++ [(q, endT v P)], S) = (A ++ [(q, v)], S + (v - endT v P)) := by
  induction P with
  | nil => intro v A q S _; simp [strR, endT]
  | cons s P ih =>
    intro v A q S h
    simp only [strR, List.foldl_cons]
    have e : abT L (A ++ [(q, s.t)], S) s.v s.t (endT v P) = (A ++ [(q, endT v P)], S + (endT v P - s.t)) := by
      unfold abT
      rw [if_pos (h s (by simp)), jnF_snoc_near]
    have e0 : endT v (s :: P) = s.t := rfl
    rw [e0, e, ih v A q _ (fun z hz => h z (List.mem_cons_of_mem _ hz))]
    congr 1
    omega
theorem abo_low (L : Int) (P : List Smp) : ∀ (v : Int) (A : List (Int × Int) × Int), (∀ s ∈ P, ¬ L < s.v) → (strR v P).foldl (fun A x => abT L A x.s.v x.a x.b) A = A := by
  induction P with
  | nil => intro v A _; rfl
  | cons s P ih =>
    intro v A h
    simp only [strR, List.foldl_cons]
    rw [show abT L A s.v s.t (endT v P) = A by unfold abT; rw [if_neg (h s (by simp))]]
    exact ih v A (fun z hz => h z (List.mem_cons_of_mem _ hz))

theorem say_hi {L : Int} {par : ByteArray} {s : Smp} (hq : s.q ≠ 2) : sayF (hiA L 0 par) s = if L < s.v then 1 else 2 := by
  have hk : (hiA L 0 par).kind = 1 := rfl
  have hb : beyF (hiA L 0 par) s = s.v - L := by unfold beyF; rw [hk]; rfl
  have hd : (hiA L 0 par).dead = 0 := rfl
  unfold sayF
  rw [hk, hb, hd, if_neg (by decide), if_neg hq]
  by_cases h : L < s.v
  · rw [if_pos (by omega), if_pos h]
  · rw [if_neg (by omega), if_pos (by omega), if_neg h]

/-- A part of samples that say the same, and the rest. -/
theorem sameP_split (x : Alm) (c : Int) (r : List Smp) : ∃ P, r = P ++ sameP x c r ∧ ∀ s ∈ P, sayF x s = c := by
  refine ⟨r.takeWhile fun y => decide (sayF x y = c), List.takeWhile_append_dropWhile.symm, fun s hs => ?_⟩
  have h := List.all_takeWhile (p := fun y => decide (sayF x y = c)) (l := r)
  rw [List.all_eq_true] at h
  simpa using h s hs
theorem sameP_head (x : Alm) (c : Int) (r : List Smp) (y : Smp) (D : List Smp) (h : sameP x c r = y :: D) : sayF x y ≠ c := by
  intro hy
  have h2 : (r.dropWhile fun y => decide (sayF x y = c)) = y :: D := h
  have := List.head?_dropWhile_not (fun y => decide (sayF x y = c)) r
  rw [h2] at this
  simp [hy] at this

def aboS (L : Int) (A : List (Int × Int) × Int) (r : List Str) : List (Int × Int) × Int := r.foldl (fun A x => abT L A x.s.v x.a x.b) A
theorem aboS_append (L : Int) (A : List (Int × Int) × Int) (a b : List Str) : aboS L A (a ++ b) = aboS L (aboS L A a) b := by unfold aboS; rw [List.foldl_append]
theorem act_abo (L u : Int) (par : ByteArray) (n : Nat) : ∀ R : List Smp, R.length ≤ n → R.Pairwise (fun a b => a.t < b.t) → (∀ s ∈ R, s.t < u) → (∀ s ∈ R, s.q ≠ 2) →
    (∀ (A : List (Int × Int)) (S : Int), sumW A = S → (∀ B q p, A = B ++ [(q, p)] → p < endT u R) →
      ((runL (hiA L 0 par) u R).foldl (wstp (hiA L 0 par) u) (false, A)).2 = (aboS L (A, S) (strR u R)).1 ∧ sumW (aboS L (A, S) (strR u R)).1 = (aboS L (A, S) (strR u R)).2) ∧
    (∀ (B : List (Int × Int)) (q S : Int), sumW (B ++ [(q, endT u R)]) = S → (∀ s r, R = s :: r → ¬ L < s.v) →
      ((runL (hiA L 0 par) u R).foldl (wstp (hiA L 0 par) u) (true, B ++ [(q, u)])).2 = (aboS L (B ++ [(q, endT u R)], S) (strR u R)).1 ∧ sumW (aboS L (B ++ [(q, endT u R)], S) (strR u R)).1 = (aboS L (B ++ [(q, endT u R)], S) (strR u R)).2) := by
  induction n with
  | zero =>
    intro R hR _ _ _
    obtain rfl := List.eq_nil_of_length_eq_zero (by omega : R.length = 0)
    rw [runL_nil]
    exact ⟨fun A S hA _ => ⟨rfl, hA⟩, fun B q S hA _ => ⟨rfl, hA⟩⟩
  | succ n ih =>
    intro R hR hp hu hq
    cases R with
    | nil =>
      rw [runL_nil]
      exact ⟨fun A S hA _ => ⟨rfl, hA⟩, fun B q S hA _ => ⟨rfl, hA⟩⟩
    | cons s r =>
      obtain ⟨P, hPr, hPs⟩ := sameP_split (hiA L 0 par) (sayF (hiA L 0 par) s) r
      have hhd := sameP_head (hiA L 0 par) (sayF (hiA L 0 par) s) r
      have hlen := sameP_len (hiA L 0 par) (sayF (hiA L 0 par) s) r
      have hrun := runL_cons (hiA L 0 par) u s r
      have hsub : (sameP (hiA L 0 par) (sayF (hiA L 0 par) s) r).Sublist r := List.dropWhile_sublist _
      generalize sameP (hiA L 0 par) (sayF (hiA L 0 par) s) r = D at *
      obtain ⟨hp1, hp2⟩ := List.pairwise_cons.1 hp
      have hsq := hq s (by simp)
      have hsay := say_hi (L := L) (par := par) hsq
      have hDD : ∀ z ∈ D, z ∈ s :: r := fun z hz => List.mem_cons_of_mem _ (hsub.subset hz)
      have hPP : ∀ z ∈ P, z.q ≠ 2 := fun z hz => hq z (List.mem_cons_of_mem _ (by rw [hPr]; exact List.mem_append_left _ hz))
      have hse : s.t < endT u D := by
        cases hD : D with
        | nil => exact hu s (by simp)
        | cons y D' => exact hp1 y (hsub.subset (by rw [hD]; simp))
      have hst : strR u (s :: r) = strR (endT u D) (s :: P) ++ strR u D := by
        rw [hPr, ← List.cons_append, strR_append]
      obtain ⟨ih1, ih2⟩ := ih D (by simp only [List.length_cons] at hR; omega) (hp2.sublist hsub) (fun z hz => hu z (hDD z hz)) (fun z hz => hq z (hDD z hz))
      have hon : (hiA L 0 par).on = 0 := rfl
      have hoff : (hiA L 0 par).off = 0 := rfl
      rw [hrun, hst, hsay]
      by_cases hv : L < s.v
      · rw [if_pos hv] at hsay ⊢
        rw [hsay] at hPs hhd
        have hPv : ∀ z ∈ P, L < z.v := fun z hz => by
          have h := hPs z hz
          rw [say_hi (hPP z hz)] at h
          by_cases h2 : L < z.v
          · exact h2
          · rw [if_neg h2] at h; omega
        refine ⟨fun A S hA hlast => ?_, fun B q S _ hno => absurd hv (hno s r rfl)⟩
        have hw : wstp (hiA L 0 par) u (false, A) (1, s.t, endT u D) = (true, A ++ [(s.t, u)]) := by
          unfold wstp
          rw [hon, if_pos ⟨rfl, rfl, by simpa using hse⟩]
          simp
        have hj : jnF A s.t (endT (endT u D) P) = A ++ [(s.t, endT (endT u D) P)] := by
          rcases List.eq_nil_or_concat A with rfl | ⟨B, ⟨q, p⟩, rfl⟩
          · rw [jnF_nil]; rfl
          · rw [List.concat_eq_append] at hlast ⊢
            exact jnF_snoc_far (hlast B q p rfl)
        have hstep : aboS L (A, S) (strR (endT u D) (s :: P)) = (A ++ [(s.t, endT u D)], S + (endT u D - s.t)) := by
          unfold aboS
          simp only [strR, List.foldl_cons]
          have e1 : abT L (A, S) s.v s.t (endT (endT u D) P) = (A ++ [(s.t, endT (endT u D) P)], S + (endT (endT u D) P - s.t)) := by
            unfold abT
            rw [if_pos hv, hj]
          rw [e1, abo_high L P (endT u D) A s.t _ hPv]
          congr 1
          omega
        rw [aboS_append, hstep, List.foldl_cons, hw]
        exact ih2 A s.t _ (by rw [sumW_snoc, hA]) (fun y D' hD hy => by
          have h := hhd y D' hD
          rw [say_hi (hq y (hDD y (by rw [hD]; simp))), if_pos hy] at h
          exact h rfl)
      · rw [if_neg hv] at hsay ⊢
        rw [hsay] at hPs hhd
        have hPv : ∀ z ∈ s :: P, ¬ L < z.v := fun z hz => by
          rcases List.mem_cons.1 hz with rfl | hz
          · exact hv
          · have h := hPs z hz
            rw [say_hi (hPP z hz)] at h
            intro h2
            rw [if_pos h2] at h
            omega
        refine ⟨fun A S hA hlast => ?_, fun B q S hA _ => ?_⟩
        · have hw : wstp (hiA L 0 par) u (false, A) (2, s.t, endT u D) = (false, A) := by
            unfold wstp
            rw [if_neg (fun h => by have h2 := h.2.1; simp at h2), if_neg (fun h => absurd h.1 (by simp))]
          rw [aboS_append, show aboS L (A, S) (strR (endT u D) (s :: P)) = (A, S) from abo_low L (s :: P) _ _ hPv, List.foldl_cons, hw]
          exact ih1 A S hA (fun B q p e => by have h := hlast B q p e; exact Int.lt_trans h hse)
        · have hw : wstp (hiA L 0 par) u (true, B ++ [(q, u)]) (2, s.t, endT u D) = (false, B ++ [(q, s.t)]) := by
            unfold wstp
            rw [if_neg (fun h => absurd h.1 (by simp)), hoff, if_pos ⟨rfl, rfl, by simpa using hse⟩, setE_snoc]
            simp
          have e0 : endT u (s :: r) = s.t := rfl
          rw [e0] at hA ⊢
          rw [aboS_append, show aboS L (B ++ [(q, s.t)], S) (strR (endT u D) (s :: P)) = (B ++ [(q, s.t)], S) from abo_low L (s :: P) _ _ hPv, List.foldl_cons, hw]
          refine ih1 (B ++ [(q, s.t)]) S hA (fun B' q' p' e => ?_)
          have h2 := List.append_inj_right' e rfl
          simp only [List.cons.injEq, Prod.mk.injEq, and_true] at h2
          rw [← h2.2]
          exact hse

theorem strTo_R {l : List Smp} {u : Int} (hS : serErr l = 0) (k : Nat) (hk : k ≤ posF l u) : strTo l 0 u k = strR (if k < posF l u then (atS l k).t else u) (l.take k) := by
  have hrise := serErr_rise hS
  have hpl := posF_le l u
  induction k with
  | zero => simp [strTo, strR]
  | succ k ih =>
    have hkl : k < l.length := by omega
    have ih := ih (by omega)
    rw [if_pos (by omega)] at ih
    have h1 := posF_iff l u none hrise k hkl
    have hvt := serErr_vt hS k
    have hA : strA l 0 k = (atS l k).t := by unfold strA; rw [if_neg (by omega)]
    have hB : strB l u k = if k + 1 < posF l u then (atS l (k + 1)).t else u := by
      unfold strB
      by_cases h2 : k + 1 < posF l u
      · have h3 := posF_iff l u none hrise (k + 1) (by omega)
        rw [if_pos h2, if_pos ⟨by omega, by omega⟩]
      · rw [if_neg h2, if_neg]
        rintro ⟨h3, h4⟩
        have h5 := posF_iff l u none hrise (k + 1) h3
        omega
    have hAB : strA l 0 k < strB l u k := by
      rw [hA, hB]
      split
      · exact rise_ltA hrise k (k + 1) (by omega) (by omega)
      · omega
    have hone : strOne l 0 u k = [⟨(atS l k).t, if k + 1 < posF l u then (atS l (k + 1)).t else u, atS l k⟩] := by
      unfold strOne
      rw [if_pos hAB, hA, hB]
    have htk : l.take (k + 1) = l.take k ++ [atS l k] := by
      rw [List.take_succ_eq_append_getElem hkl, atS_eq l k hkl]
    have e1 : strTo l 0 u (k + 1) = strTo l 0 u k ++ strOne l 0 u k := rfl
    rw [e1, ih, hone, htk, strR_append]
    rfl
theorem strL_R {l : List Smp} {u : Int} (hS : serErr l = 0) : strL l 0 u = strR u (l.take (posF l u)) := by
  rw [strL_pos (serErr_rise hS), strTo_R hS _ (Nat.le_refl _), if_neg (by omega)]
/-- A high alarm without deadband and delays is active where the value is above the limit. -/
theorem act_above {l : List Smp} {u L : Int} (par : ByteArray) (hS : serErr l = 0) (hq : ∀ s ∈ l, s.q ≠ 2) : actL (hiA L 0 par) l u = (aboV l 0 u L).1 ∧ sumW (aboV l 0 u L).1 = (aboV l 0 u L).2 := by
  obtain ⟨h1, h2⟩ := take_right (u := u) hS
  have hg := (serErr_good hS).2
  have hv : valL l 0 u = strR u (l.take (posF l u)) := by
    unfold valL
    rw [List.filter_eq_self.2, strL_R hS]
    intro x hx
    rw [strL_R hS] at hx
    have hmem : ∀ (v : Int) (R : List Smp), x ∈ strR v R → x.s ∈ R := by
      intro v R
      induction R with
      | nil => intro h; cases h
      | cons s r ih =>
        intro h
        simp only [strR, List.mem_cons] at h
        rcases h with rfl | h
        · simp
        · exact List.mem_cons_of_mem _ (ih h)
    have h3 := List.mem_of_mem_take (hmem u _ hx)
    have h4 := (smpErr_good (hg _ h3)).2.1
    have h5 := hq _ h3
    simp only [decide_eq_true_eq]
    omega
  have hmain := (act_abo L u par _ (l.take (posF l u)) (Nat.le_refl _) h1 (fun s hs => (h2 s hs).2) (fun s hs => hq s (List.mem_of_mem_take hs))).1 [] 0 rfl (fun B q p e => by simp at e)
  have ha : aboV l 0 u L = aboS L ([], 0) (strR u (l.take (posF l u))) := by unfold aboV abS aboS; rw [hv]
  rw [ha]
  exact hmain

/-- slices.ContainsFunc over the function that asks whether a sample is bad. -/
theorem top1_any (x : Smp) (w : World) :
    Calls Try.prog 12 #[.agg #[.int .i64 x.t, .int .i64 x.v, .int .i64 x.q]] w fun e w' => e = .returned (.bool (x.q == 2)) ∧ Below w.heap.size w w' := by
  go_enter Try.func12, Try.ntmps12
  go_wp2_with fail
  go_ret
  exact ⟨rfl, (Below.refl _ w).alloc (Nat.le_refl _) _⟩
theorem enter_top1 (args : Array Value) (w : World) : (callFunc 12 args).run Try.prog w = .ok (.enter 12 args) w := by kernel_rfl
def BadEnd (P : List Smp) (w : World) (e : Ending) (w' : World) : Prop := ∃ k : Int, e = .returned (.int .i64 k) ∧ (¬ 0 ≤ k → ∀ s ∈ P, s.q ≠ 2) ∧ Below w.heap.size w w'
set_option maxRecDepth 100000 in
set_option maxHeartbeats 2000000 in
theorem indexBad_any (v : Value) (P : List Smp) (w : World) (hN : RdS w 45 v P) (hlong : P.length ≤ 5000) :
    Calls Try.prog 28 #[v, .func (.func 12) #[] #[]] w (BadEnd P w) := by
  have hcf := enter_top1
  obtain ⟨ps, cs, rfl⟩ := hN.lenv
  have HN := Lib.hid hN
  clear hN
  go_enter Try.func28, Try.ntmps28
  go_wp2_with fail
  go_loopw [8] (fun si wr => ∃ m : Nat, m ≤ P.length ∧ si = .int .i64 (m : Int) ∧ (∀ j, j < m → (atS P j).q ≠ 2) ∧ Below w.heap.size w wr) (fun i _ => P.length - (intOf i).toNat)
  case atStart => exact ⟨0, by omega, rfl, fun j hj => by omega, Below.refl _ _⟩
  case round =>
    obtain ⟨m, hm, rfl, hall, hbr⟩ := hrel
    have HALL := Lib.hid hall
    clear hall
    by_cases hlt : m < P.length
    · obtain ⟨b, off, c, hv, hc1, hc2, hblt, hcell⟩ := RdS.at_ (Rd.below HN.out hbr) (by omega)
      cases hv
      unfold maxLen at hc2
      obtain ⟨c0, c1, c2⟩ := hcell m hlt
      have HC := Lib.hid (top1_any (atS P m) wr)
      have HQ := Lib.hid (show (atS P m).q ≠ 2 → ∀ j, j < m + 1 → (atS P j).q ≠ 2 from fun h j hj => by
        by_cases e : j = m
        · subst e; exact h
        · exact HALL.out j (by omega))
      clear hcell
      generalize atS P m = x at *
      have i1 : (0 : Int) ≤ (m : Int) := by omega
      have i2 : (m : Int) < (P.length : Int) := by omega
      by_cases hx : x.q = 2
      · have hx' : (x.q == 2) = true := by simpa using hx
        rw [hx'] at HC
        clear hx hx'
        go_wp2_with fail
        refine HC.out.mono ?_
        rintro e wj ⟨rfl, hbj⟩
        have hb2 := hbr.trans (hbj.mono hbr.size)
        go_wp2_with fail
        go_ret
        exact ⟨m, rfl, fun h => absurd i1 h, hb2⟩
      · have hx' : (x.q == 2) = false := by simpa using hx
        rw [hx'] at HC
        have HQ2 := Lib.hid (HQ.out hx)
        clear hx hx'
        go_wp2_with fail
        refine HC.out.mono ?_
        rintro e wj ⟨rfl, hbj⟩
        have hb2 := hbr.trans (hbj.mono hbr.size)
        go_wp2_with fail
        go_roundw
        case rel => exact ⟨m + 1, by omega, by go_num, HQ2.out, hb2⟩
        case measure => simp [intOf]; omega
    · obtain rfl : m = P.length := by omega
      go_wp2_with fail
      go_ret
      exact ⟨-1, rfl, fun _ s hs => by
        obtain ⟨j, hj, rfl⟩ := List.getElem_of_mem hs
        rw [atS_eq P j hj]
        exact HALL.out j hj, hbr⟩
def HasEnd (P : List Smp) (w : World) (e : Ending) (w' : World) : Prop := ∃ B : Bool, e = .returned (.bool B) ∧ (B = false → ∀ s ∈ P, s.q ≠ 2) ∧ Below w.heap.size w w'
set_option maxRecDepth 100000 in
theorem containsBad_any (v : Value) (P : List Smp) (w : World) (hN : RdS w 45 v P) (hlong : P.length ≤ 5000) :
    Calls Try.prog 11 #[v, .func (.func 12) #[] #[]] w (HasEnd P w) := by
  have HIX := Lib.hid (indexBad_any v P w hN hlong)
  clear hN
  go_enter Try.func11, Try.ntmps11
  go_wp2_with fail
  refine HIX.out.mono ?_
  rintro e wj ⟨k, rfl, hk, hbe⟩
  have HK := Lib.hid hk
  clear hk
  by_cases h0 : 0 ≤ k
  · go_wp2_with fail
    go_ret
    exact ⟨true, rfl, fun h => (by cases h), hbe⟩
  · have h0' : decide (0 ≤ k) = false := by simpa using h0
    have HK2 := Lib.hid (HK.out h0)
    clear h0
    go_wp2_with fail
    go_ret
    exact ⟨false, rfl, fun _ => HK2.out, hbe⟩
end Go.Proofs.Ytjoknaglhahbaaa
