import Derived.Test.YtjoknaglhahbaaaBx01
import Derived.Test.YtjoknaglhahbaaaTab
import Derived.Test.YtjoknaglhahbaaaPos
import Derived.Test.YtjoknaglhahbaaaAt
import Derived.Deep.DeepCutAuto
import Derived.BigQuiet
/- What frames are (mathematics): they begin at samples that start them, they end after they began, they are apart. -/

namespace Go.Proofs.Ytjoknaglhahbaaa
open Go.RowKit
set_option linter.unusedVariables false
set_option linter.unusedSimpArgs false

/-- A frame of t begins at the moment p. -/
def Begs (t : Trg) (l : List Smp) (p : Int) : Prop := ∃ i, i < l.length ∧ p = (atS l i).t ∧ (atS l i).q ≠ 2 ∧ t.st ≤ (atS l i).v

structure FrG (t : Trg) (l : List Smp) (u : Int) (n : Nat) (S : Bool × List (Int × Int)) : Prop where
  beg : ∀ y ∈ S.2, Begs t l y.1 ∧ (∀ j, n ≤ j → j < l.length → y.1 < (atS l j).t)
  lt : ∀ y ∈ S.2, y.1 < y.2 ∧ y.2 ≤ u
  apart : S.2.Pairwise fun a b => a.2 ≤ b.1
  past : S.1 = false → ∀ y ∈ S.2, ∀ j, n ≤ j → j < l.length → y.2 ≤ (atS l j).t
  cur : S.1 = true → ∃ out a, S.2 = out ++ [(a, u)] ∧ ∀ y ∈ out, y.2 ≤ a

theorem frG_to {t : Trg} {l : List Smp} {u : Int} (hr : Rise none l) (n : Nat) (hn : n ≤ l.length) (hu : ∀ j, j < n → (atS l j).t < u) : FrG t l u n (trTo t u l n) := by
  induction n with
  | zero => exact ⟨fun y h => (by simp [trTo] at h), fun y h => (by simp [trTo] at h), (by simp [trTo]), fun _ y h => (by simp [trTo] at h), fun h => (by simp [trTo] at h)⟩
  | succ n ih =>
    have h := ih (by omega) fun j hj => hu j (by omega)
    have hun := hu n (by omega)
    have hlt : ∀ j, n < j → j < l.length → (atS l n).t < (atS l j).t := fun j h1 h2 => rise_ltA hr n j h1 h2
    rw [show trTo t u l (n + 1) = trs t u (trTo t u l n) (atS l n) from rfl]
    generalize trTo t u l n = S at *
    obtain ⟨c, out⟩ := S
    obtain ⟨h1, h2, h3, h4, h5⟩ := h
    simp only at h1 h2 h3 h4 h5
    unfold trs
    by_cases hq : (atS l n).q = 2
    · rw [if_pos hq]
      exact ⟨fun y hy => ⟨(h1 y hy).1, fun j hj => (h1 y hy).2 j (by omega)⟩, h2, h3, fun hc y hy j hj => h4 hc y hy j (by omega), h5⟩
    · rw [if_neg hq]
      by_cases hs : c = false ∧ t.st ≤ (atS l n).v
      · rw [if_pos hs]
        have hp := h4 hs.1
        refine ⟨fun y hy => ?_, fun y hy => ?_, ?_, fun hc => (by simp at hc), fun _ => ⟨out, (atS l n).t, rfl, fun y hy => hp y hy n (Nat.le_refl _) (by omega)⟩⟩
        · rcases List.mem_append.1 hy with hy | hy
          · exact ⟨(h1 y hy).1, fun j hj => (h1 y hy).2 j (by omega)⟩
          · rw [List.mem_singleton.1 hy]
            exact ⟨⟨n, by omega, rfl, hq, hs.2⟩, fun j hj hjl => hlt j (by omega) hjl⟩
        · rcases List.mem_append.1 hy with hy | hy
          · exact h2 y hy
          · rw [List.mem_singleton.1 hy]
            exact ⟨hun, Int.le_refl _⟩
        · refine List.pairwise_append.2 ⟨h3, List.pairwise_singleton _ _, fun a ha b hb => ?_⟩
          rw [List.mem_singleton.1 hb]
          exact hp a ha n (Nat.le_refl _) (by omega)
      · rw [if_neg hs]
        by_cases he : c = true ∧ (atS l n).v < t.sp
        · rw [if_pos he]
          obtain ⟨o2, a, e, ho⟩ := h5 he.1
          subst e
          rw [setE_snoc]
          have ha := h1 (a, u) (by simp)
          have hat : a < (atS l n).t := ha.2 n (Nat.le_refl _) (by omega)
          obtain ⟨p1, _, p3⟩ := List.pairwise_append.1 h3
          refine ⟨fun y hy => ?_, fun y hy => ?_, ?_, fun _ y hy j hj hjl => ?_, fun hc => (by simp at hc)⟩
          · rcases List.mem_append.1 hy with hy | hy
            · have := h1 y (List.mem_append_left _ hy)
              exact ⟨this.1, fun j hj => this.2 j (by omega)⟩
            · rw [List.mem_singleton.1 hy]
              exact ⟨ha.1, fun j hj => ha.2 j (by omega)⟩
          · rcases List.mem_append.1 hy with hy | hy
            · exact h2 y (List.mem_append_left _ hy)
            · rw [List.mem_singleton.1 hy]
              exact ⟨hat, Int.le_of_lt hun⟩
          · refine List.pairwise_append.2 ⟨p1, List.pairwise_singleton _ _, fun x hx b hb => ?_⟩
            rw [List.mem_singleton.1 hb]
            exact ho x hx
          · have hnj := hlt j (by omega) hjl
            rcases List.mem_append.1 hy with hy | hy
            · have := ho y hy
              omega
            · rw [List.mem_singleton.1 hy]
              exact Int.le_of_lt hnj
        · rw [if_neg he]
          exact ⟨fun y hy => ⟨(h1 y hy).1, fun j hj => (h1 y hy).2 j (by omega)⟩, h2, h3, fun hc y hy j hj => h4 hc y hy j (by omega), h5⟩

structure JnG (P : Int → Prop) (ap u : Int) (r : List (Int × Int)) (n : Nat) (out : List (Int × Int)) : Prop where
  beg : ∀ y ∈ out, P y.1
  lt : ∀ y ∈ out, y.1 < y.2 ∧ y.2 ≤ u
  apart : out.Pairwise fun a b => a.2 ≤ b.1 ∧ ap ≤ b.1 - a.2
  past : ∀ y ∈ out, ∀ j, n ≤ j → j < r.length → y.2 ≤ (atW r j).1

theorem snoc_of {l : List (Int × Int)} (h : l ≠ []) : ∃ a z, l = a ++ [z] ∧ l.getD (l.length - 1) (0, 0) = z := by
  refine ⟨l.dropLast, l.getLast h, (List.dropLast_concat_getLast h).symm, ?_⟩
  have hl : 0 < l.length := List.length_pos_iff.2 h
  rw [List.getD_eq_getElem?_getD, List.getElem?_eq_getElem (by omega), List.getLast_eq_getElem]
  rfl

theorem jnG_to {P : Int → Prop} {ap u : Int} {r : List (Int × Int)} (hb : ∀ y ∈ r, P y.1) (hl : ∀ y ∈ r, y.1 < y.2 ∧ y.2 ≤ u) (ha : r.Pairwise fun a b => a.2 ≤ b.1) (n : Nat) (hn : n ≤ r.length) : JnG P ap u r n (jnTo ap r n) := by
  induction n with
  | zero => exact ⟨fun y h => (by simp [jnTo] at h), fun y h => (by simp [jnTo] at h), (by simp [jnTo]), fun y h => (by simp [jnTo] at h)⟩
  | succ n ih =>
    obtain ⟨h1, h2, h3, h4⟩ := ih (by omega)
    have hm : atW r n ∈ r := by rw [← atW_eq r n (by omega)]; exact List.getElem_mem _
    have hf := hl _ hm
    have hnx : ∀ j, n + 1 ≤ j → j < r.length → (atW r n).2 ≤ (atW r j).1 := fun j hj hjl => by
      have := List.pairwise_iff_getElem.1 ha n j (by omega) hjl (by omega)
      rwa [atW_eq r n (by omega), atW_eq r j hjl] at this
    have hbm := hb _ hm
    have hpn : ∀ y ∈ jnTo ap r n, y.2 ≤ (atW r n).1 := fun y hy => h4 y hy n (Nat.le_refl _) (by omega)
    rw [show jnTo ap r (n + 1) = jnS ap (jnTo ap r n) (atW r n) from rfl]
    generalize atW r n = f at *
    generalize jnTo ap r n = out at *
    unfold jnS
    by_cases hc : out ≠ [] ∧ f.1 - (out.getD (out.length - 1) (0, 0)).2 < ap
    · rw [if_pos hc]
      obtain ⟨o2, z, e, hz⟩ := snoc_of hc.1
      subst e
      obtain ⟨za, zb⟩ := z
      rw [setE_snoc]
      obtain ⟨p1, _, p3⟩ := List.pairwise_append.1 h3
      have hz1 := h2 (za, zb) (by simp)
      have hz2 := h1 (za, zb) (by simp)
      have hz3 := hpn (za, zb) (by simp)
      refine ⟨fun y hy => ?_, fun y hy => ?_, ?_, fun y hy j hj hjl => ?_⟩
      · rcases List.mem_append.1 hy with hy | hy
        · exact h1 y (List.mem_append_left _ hy)
        · rw [List.mem_singleton.1 hy]; exact hz2
      · rcases List.mem_append.1 hy with hy | hy
        · exact h2 y (List.mem_append_left _ hy)
        · rw [List.mem_singleton.1 hy]
          simp only at hz1 hz3 ⊢
          exact ⟨by omega, hf.2⟩
      · refine List.pairwise_append.2 ⟨p1, List.pairwise_singleton _ _, fun x hx b hb => ?_⟩
        rw [List.mem_singleton.1 hb]
        exact p3 x hx (za, zb) (by simp)
      · rcases List.mem_append.1 hy with hy | hy
        · exact h4 y (List.mem_append_left _ hy) j (by omega) hjl
        · rw [List.mem_singleton.1 hy]
          exact hnx j hj hjl
    · rw [if_neg hc]
      refine ⟨fun y hy => ?_, fun y hy => ?_, ?_, fun y hy j hj hjl => ?_⟩
      · rcases List.mem_append.1 hy with hy | hy
        · exact h1 y hy
        · rw [List.mem_singleton.1 hy]; exact hbm
      · rcases List.mem_append.1 hy with hy | hy
        · exact h2 y hy
        · rw [List.mem_singleton.1 hy]; exact hf
      · refine List.pairwise_append.2 ⟨h3, List.pairwise_singleton _ _, fun x hx b hb => ?_⟩
        rw [List.mem_singleton.1 hb]
        have hx1 := hpn x hx
        refine ⟨hx1, ?_⟩
        have hne : out ≠ [] := List.ne_nil_of_mem hx
        obtain ⟨o2, z, e, hz⟩ := snoc_of hne
        have hzg : ap ≤ f.1 - z.2 := by
          rw [hz] at hc
          by_cases hh : f.1 - z.2 < ap
          · exact absurd ⟨hne, hh⟩ hc
          · omega
        subst e
        rcases List.mem_append.1 hx with hx | hx
        · have h5 := ((List.pairwise_append.1 h3).2.2 x hx z (by simp)).1
          have h6 := (h2 z (by simp)).1
          omega
        · rw [List.mem_singleton.1 hx]
          exact hzg
      · rcases List.mem_append.1 hy with hy | hy
        · exact h4 y hy j (by omega) hjl
        · rw [List.mem_singleton.1 hy]
          exact hnx j hj hjl
/-- What frames are. -/
theorem frmL_good {t : Trg} {l : List Smp} {u : Int} (hS : serErr l = 0) (hu : 0 ≤ u ∧ u ≤ 345686400000) :
    (∀ y ∈ frmL t l u, Begs t l y.1 ∧ (0 ≤ y.1 ∧ y.1 < y.2 ∧ y.2 ≤ u) ∧ t.ls ≤ y.2 - y.1) ∧ ((frmL t l u).Pairwise fun a b => a.2 ≤ b.1 ∧ t.jn ≤ b.1 - a.2) ∧ (frmL t l u).length ≤ l.length := by
  have hr := serErr_rise hS
  have hp := posF_le l u
  have hpos := fun j (hj : j < l.length) => posF_iff l u none hr j hj
  have h1 := frG_to (t := t) (u := u) hr (posF l u) hp fun j hj => by have := hpos j (by omega); omega
  have hlen := (trTo_len t u l (posF l u)).1
  unfold frmL
  simp only
  generalize (trTo t u l (posF l u)) = S at *
  have h2 := jnG_to (ap := t.jn) (P := Begs t l) (fun y hy => (h1.beg y hy).1) h1.lt h1.apart S.2.length (Nat.le_refl _)
  have hl2 := jnTo_len t.jn S.2 S.2.length
  generalize jnTo t.jn S.2 S.2.length = J at *
  refine ⟨fun y hy => ?_, h2.apart.sublist List.filter_sublist, ?_⟩
  · obtain ⟨hm, hc⟩ := List.mem_filter.1 hy
    have hb := h2.beg y hm
    have hlt := h2.lt y hm
    obtain ⟨i, hi, e, _⟩ := hb
    have h0 := (serErr_vt hS i).2.1
    rw [← e] at h0
    exact ⟨h2.beg y hm, ⟨h0, hlt⟩, by simpa using hc⟩
  · have := List.length_filter_le (fun y : Int × Int => !decide (y.2 - y.1 < t.ls)) J
    omega
end Go.Proofs.Ytjoknaglhahbaaa

/- Frames are the windows of an alarm (mathematics): a trigger and an alarm with the deadband that leads from one limit to the other. -/

namespace Go.Proofs.Ytjoknaglhahbaaa
open Go.RowKit
set_option linter.unusedVariables false
set_option linter.unusedSimpArgs false

/-- What one thing that a sample says makes of the windows. -/
def stp1 (u : Int) (S : Bool × List (Int × Int)) (c t : Int) : Bool × List (Int × Int) :=
  if S.1 = false ∧ c = 1 then (true, S.2 ++ [(t, u)]) else if S.1 = true ∧ c = 2 then (false, setE S.2 t) else S
theorem stp1_again (u : Int) (S : Bool × List (Int × Int)) (c t t' : Int) : stp1 u (stp1 u S c t) c t' = stp1 u S c t := by
  obtain ⟨b, out⟩ := S
  unfold stp1
  by_cases h1 : b = false ∧ c = 1
  · rw [if_pos h1]
    obtain ⟨rfl, rfl⟩ := h1
    simp
  · rw [if_neg h1]
    by_cases h2 : b = true ∧ c = 2
    · rw [if_pos h2]
      obtain ⟨rfl, rfl⟩ := h2
      simp
    · rw [if_neg h2]
      simp only
      rw [if_neg h1, if_neg h2]
theorem say_dead {L D : Int} {par : ByteArray} {s : Smp} : sayF (hiA L D par) s = if s.q = 2 then 0 else if L < s.v then 1 else if s.v - L ≤ -D then 2 else 0 := by
  have hk : (hiA L D par).kind = 1 := rfl
  have hb : beyF (hiA L D par) s = s.v - L := by unfold beyF; rw [hk]; rfl
  have hd : (hiA L D par).dead = D := rfl
  unfold sayF
  rw [hk, hb, hd, if_neg (by decide)]
  by_cases hq : s.q = 2
  · rw [if_pos hq, if_pos hq]
  · rw [if_neg hq, if_neg hq]
    by_cases h : L < s.v
    · rw [if_pos h, if_pos (by omega)]
    · rw [if_neg h, if_neg (by omega)]
theorem trs_stp1 {a b jn ls : Int} {u : Int} {par : ByteArray} (hab : b ≤ a) (S : Bool × List (Int × Int)) (s : Smp) : trs ⟨a, b, jn, ls⟩ u S s = stp1 u S (sayF (hiA (a - 1) (a - b) par) s) s.t := by
  obtain ⟨c, out⟩ := S
  rw [say_dead]
  unfold trs stp1
  by_cases hq : s.q = 2
  · rw [if_pos hq, if_pos hq]
    simp
  · rw [if_neg hq, if_neg hq]
    by_cases h1 : a ≤ s.v
    · rw [if_pos (show a - 1 < s.v by omega)]
      have h2 : ¬ s.v < b := by omega
      simp [h1, h2]
    · rw [if_neg (show ¬ a - 1 < s.v by omega)]
      by_cases h2 : s.v < b
      · rw [if_pos (show s.v - (a - 1) ≤ -(a - b) by omega)]
        simp [h1, h2]
      · rw [if_neg (show ¬ s.v - (a - 1) ≤ -(a - b) by omega)]
        simp [h1, h2]
theorem wstp_stp1 {x : Alm} {u : Int} (hon : x.on = 0) (hof : x.off = 0) (S : Bool × List (Int × Int)) (c p q : Int) (h : p < q) : wstp x u S (c, p, q) = stp1 u S c p := by
  unfold wstp stp1
  simp only [hon, hof, Int.add_zero, h, and_true]
theorem fold_same (u : Int) (x : Alm) (c : Int) (P : List Smp) (hP : ∀ s ∈ P, sayF x s = c) (S : Bool × List (Int × Int)) (t : Int) : P.foldl (fun S s => stp1 u S (sayF x s) s.t) (stp1 u S c t) = stp1 u S c t := by
  induction P with
  | nil => rfl
  | cons s P ih =>
    rw [List.foldl_cons, hP s (by simp), stp1_again]
    exact ih fun z hz => hP z (by simp [hz])
theorem runs_fold {x : Alm} {u : Int} (hon : x.on = 0) (hof : x.off = 0) (n : Nat) : ∀ l : List Smp, l.length ≤ n → l.Pairwise (fun a b => a.t < b.t) → (∀ s ∈ l, s.t < u) → ∀ S, (runL x u l).foldl (wstp x u) S = l.foldl (fun S s => stp1 u S (sayF x s) s.t) S := by
  induction n with
  | zero =>
    intro l hl _ _ S
    rw [List.eq_nil_of_length_eq_zero (by omega : l.length = 0), runL_nil]
    rfl
  | succ n ih =>
    intro l hl hp hb S
    cases l with
    | nil => rw [runL_nil]; rfl
    | cons s r =>
      obtain ⟨P, hr, hP⟩ := sameP_split x (sayF x s) r
      have hlen := sameP_len x (sayF x s) r
      have hsub : (sameP x (sayF x s) r).Sublist r := List.dropWhile_sublist _
      obtain ⟨hp1, hp2⟩ := List.pairwise_cons.1 hp
      have hend : s.t < endT u (sameP x (sayF x s) r) := by
        cases hD : sameP x (sayF x s) r with
        | nil => exact hb s (by simp)
        | cons z D => exact hp1 z (hsub.subset (by rw [hD]; simp))
      rw [runL_cons, List.foldl_cons, wstp_stp1 hon hof _ _ _ _ hend]
      simp only [List.length_cons] at hl
      rw [ih _ (by omega) (hp2.sublist hsub) (fun z hz => hb z (List.mem_cons_of_mem _ (hsub.subset hz)))]
      conv => rhs; rw [List.foldl_cons, hr, List.foldl_append, fold_same u x (sayF x s) P hP]
theorem trTo_fold (t : Trg) (u : Int) (l : List Smp) (n : Nat) (hn : n ≤ l.length) : trTo t u l n = (l.take n).foldl (trs t u) (false, []) := by
  induction n with
  | zero => rfl
  | succ n ih =>
    rw [show trTo t u l (n + 1) = trs t u (trTo t u l n) (atS l n) from rfl, ih (by omega), List.take_succ_eq_append_getElem (show n < l.length by omega), List.foldl_append, atS_eq l n (by omega)]
    rfl
theorem jnTo_zero {r : List (Int × Int)} (ha : r.Pairwise fun a b => a.2 ≤ b.1) (n : Nat) (hn : n ≤ r.length) : jnTo 0 r n = r.take n := by
  induction n with
  | zero => rfl
  | succ n ih =>
    rw [show jnTo 0 r (n + 1) = jnS 0 (jnTo 0 r n) (atW r n) from rfl, ih (by omega), List.take_succ_eq_append_getElem (show n < r.length by omega), atW_eq r n (by omega)]
    unfold jnS
    rw [if_neg]
    rintro ⟨hne, hlt⟩
    obtain ⟨o2, z, e, hz⟩ := snoc_of hne
    rw [hz] at hlt
    have hm : n ≠ 0 := fun h => hne (by rw [h]; rfl)
    have hzn : z = r[n - 1]'(by omega) := by
      have h1 : (r.take n).getD ((r.take n).length - 1) (0, 0) = r[n - 1]'(by omega) := by
        rw [show (r.take n).length - 1 = n - 1 by simp; omega, List.getD_eq_getElem?_getD, List.getElem?_take_of_lt (by omega), List.getElem?_eq_getElem (by omega)]
        rfl
      rw [← hz, h1]
    have := List.pairwise_iff_getElem.1 ha (n - 1) n (by omega) (by omega) (by omega)
    rw [← hzn, atW_eq r n (by omega)] at this
    omega
/-- The frames are the windows. -/
theorem frames_alarms {a b u : Int} {l : List Smp} (par : ByteArray) (hS : serErr l = 0) (hab : b ≤ a) : frmL ⟨a, b, 0, 0⟩ l u = actL (hiA (a - 1) (a - b) par) l u := by
  have hr := serErr_rise hS
  have hp := posF_le l u
  have hpos := fun j (hj : j < l.length) => posF_iff l u none hr j hj
  have h1 := frG_to (t := ⟨a, b, 0, 0⟩) (u := u) hr (posF l u) hp fun j hj => by have := hpos j (by omega); omega
  have hpw : (l.take (posF l u)).Pairwise (fun a b => a.t < b.t) := by
    refine List.Pairwise.sublist (List.take_sublist _ _) (List.pairwise_iff_getElem.2 fun i j hi hj hij => ?_)
    have := rise_ltA hr i j hij hj
    rwa [← atS_eq l i hi, ← atS_eq l j hj] at this
  have hlu : ∀ s ∈ l.take (posF l u), s.t < u := fun s hs => by
    obtain ⟨i, hi, rfl⟩ := List.getElem_of_mem hs
    have hi2 : i < posF l u ∧ i < l.length := by rw [List.length_take] at hi; omega
    rw [List.getElem_take, atS_eq l i hi2.2]
    have := hpos i hi2.2
    omega
  have hf : (trTo ⟨a, b, 0, 0⟩ u l (posF l u)).2 = actL (hiA (a - 1) (a - b) par) l u := by
    unfold actL wndS
    rw [runs_fold (x := hiA (a - 1) (a - b) par) rfl rfl _ _ (Nat.le_refl _) hpw hlu, trTo_fold _ _ _ _ hp]
    congr 2
    funext S s
    exact trs_stp1 hab S s
  unfold frmL
  simp only
  rw [jnTo_zero h1.apart _ (Nat.le_refl _), List.take_length, hf.symm, List.filter_eq_self]
  intro y hy
  have := h1.lt y hy
  simp
  omega
end Go.Proofs.Ytjoknaglhahbaaa

/- triggered (package batch), for a right series and a moment within all moments. -/

namespace Go.Proofs.Ytjoknaglhahbaaa
open Go.RowKit
set_option linter.unusedVariables false
set_option linter.unusedSimpArgs false

set_option maxRecDepth 100000 in
set_option maxHeartbeats 4000000 in
theorem triggered_any (t : Trg) (v : Value) (l : List Smp) (u : Int) (w : World) (hR : RdS w 45 v l) (hS : serErr l = 0) :
    Calls Try.prog 24 #[.agg (trgCells t), v, .int .i64 u] w fun e w' => ∃ vr, e = .returned vr ∧ RdWdw w' vr (trTo t u l (posF l u)).2 ∧ Below w.heap.size w w' := by
  obtain ⟨st, sp, jn, ls⟩ := t
  simp only [trgCells]
  have hlong := (serErr_good hS).1
  obtain ⟨pa, ca, rfl⟩ := hR.lenv
  have HT := Lib.hid (fun n => trTo_len ⟨st, sp, jn, ls⟩ u l n)
  have HS := Lib.hid (fun j => (show trTo ⟨st, sp, jn, ls⟩ u l (j + 1) = trs ⟨st, sp, jn, ls⟩ u (trTo ⟨st, sp, jn, ls⟩ u l j) (atS l j) from rfl))
  have hB := Blk.new w 34 #[.int .i64 st, .int .i64 sp, .int .i64 jn, .int .i64 ls]
  have hbw : Below w.heap.size w (w.alloc (.cells #[.int .i64 st, .int .i64 sp, .int .i64 jn, .int .i64 ls] 34)) := (Below.refl _ w).alloc (Nat.le_refl _) _
  have hRa := Rd.below hR hbw
  have HP := Lib.hid (position_any (.slice pa l.length ca) l u _ hRa (serErr_rise hS) hlong)
  have hple := posF_le l u
  have HR := Lib.hid hR
  clear hR hRa hS
  go_enter Try.func24, Try.ntmps24
  go_upto_region 3 with fail
  generalize w.alloc (.cells #[.int .i64 st, .int .i64 sp, .int .i64 jn, .int .i64 ls] 34) = w1 at *
  have HBW := Lib.hid hbw
  clear hbw
  go_cut [15, 16, 17] (fun s15 s16 s17 wx => s16 = .int .i64 (posF l u : Int) ∧ s17 = .int .i64 0 ∧ (∃ P, s15 = .slice P (posF l u) ca ∧ (0 < posF l u → P = pa)) ∧ Below w1.heap.size w1 wx)
  case first =>
    obtain ⟨hcl, hcm, hpa⟩ : l.length ≤ ca ∧ ca ≤ maxLen ∧ (0 < posF l u → ∃ b off, pa = some ⟨b, off, none⟩) := by
      obtain ⟨_, pa', ca', hv, h1, h2, h3⟩ := HR.out
      cases hv
      exact ⟨h1, h2, fun h => by obtain ⟨b, off, _, _, hh, _⟩ := h3 (by omega); exact ⟨b, off, hh⟩⟩
    unfold maxLen at hcm
    have hpc : posF l u ≤ ca := by omega
    go_wp2_with fail
    refine HP.out.mono ?_
    rintro e w2 ⟨rfl, hb2⟩
    generalize posF l u = n at *
    by_cases hc0 : ca = 0
    · obtain rfl : n = 0 := by omega
      subst hc0
      go_wp2_with fail
      go_meet
      exact ⟨rfl, rfl, ⟨pa, rfl, fun _ => rfl⟩, hb2⟩
    · go_wp2_with fail
      go_meet
      refine ⟨rfl, rfl, ⟨_, rfl, fun h => ?_⟩, hb2⟩
      obtain ⟨b, off, rfl⟩ := hpa h
      simp
  case rest =>
    obtain ⟨rfl, rfl, ⟨P, rfl, hP⟩, hb2⟩ := hcut
    have hB2 := hB.below hb2 hB.lt
    have hbx := HBW.out.trans (hb2.mono HBW.out.size)
    have hR2 := Rd.below HR.out hbx
    have HRX := Lib.hid hR2
    have HBX := Lib.hid hbx
    have HB2 := Lib.hid hB2
    clear hB hb2 HBW HR HP hR2 hbx hB2
    go_wp2_with fail
    go_loopw [7, 8, 17] (fun o cu i wr => ∃ j : Nat, j ≤ posF l u ∧ i = .int .i64 (j : Int) ∧ cu = .bool (trTo ⟨st, sp, jn, ls⟩ u l j).1 ∧ StW wc o (trTo ⟨st, sp, jn, ls⟩ u l j).2 wr) (fun _ _ i _ => posF l u - (intOf i).toNat)
    case atStart => exact ⟨0, by omega, rfl, rfl, World.ownsRow_nil _ _ _ _, Below.refl _ _⟩
    case round =>
      obtain ⟨j, hj, rfl, rfl, hk⟩ := hrel
      by_cases hlt : j < posF l u
      · obtain rfl := hP (by omega)
        have hRr : RdS wr _ _ l := Rd.below HRX.out hk.bl
        obtain ⟨b, off, c, hv, hc1, hc2, hblt, hcell⟩ := RdS.at_ hRr (by omega)
        cases hv
        unfold maxLen at hc2
        obtain ⟨c0, c1, c2⟩ := hcell j (by omega)
        have hl2 := HT.out j
        have hs2 := HS.out j
        have hBr := HB2.out.below hk.bl HB2.out.lt
        generalize trTo ⟨st, sp, jn, ls⟩ u l j = S2 at *
        obtain ⟨cur, out⟩ := S2
        generalize atS l j = x at *
        obtain ⟨xt, xv, xq⟩ := x
        simp only at c0 c1 c2 hk hl2
        obtain ⟨po, co, rfl⟩ := RdWdw.lenv (Rd.of_own hk.own)
        have HS2 := Lib.hid hs2
        have hbo := Blk.new wr 45 #[.int .i64 xt, .int .i64 xv, .int .i64 xq]
        have hk2 := hk.alloc (.cells #[.int .i64 xt, .int .i64 xv, .int .i64 xq] 45)
        have hB3 := hBr.alloc (.cells #[.int .i64 xt, .int .i64 xv, .int .i64 xq] 45)
        have hol : out.length ≤ 5000 := by omega
        clear hs2 hRr hcell hBr hk
        go_upto_region 6 with fail
        generalize wr.alloc (.cells #[.int .i64 xt, .int .i64 xv, .int .i64 xq] 45) = wm at *
        generalize wr.heap.size = Z at *
        clear c0 c1 c2
        have e0 := hbo.cell 0
        have e1 := hbo.cell 1
        have e2 := hbo.cell 2
        have t0 := hB3.cell 0
        have t1 := hB3.cell 1
        by_cases hq : xq = 2
        · have hq' : (xq == 2) = true := by simpa using hq
          have HE := Lib.hid (show trTo ⟨st, sp, jn, ls⟩ u l (j + 1) = (cur, out) by rw [HS2.out]; unfold trs; rw [if_pos hq])
          have HKD := Lib.hid hk2
          clear hk2 hq
          go_wp2_with fail
          go_roundw
          case rel => exact ⟨j + 1, by omega, by go_num, by rw [HE.out], by rw [HE.out]; exact HKD.out⟩
          case measure => simp [intOf]; omega
        · have hq' : (xq == 2) = false := by simpa using hq
          cases cur
          · by_cases hst : st ≤ xv
            · have HE := Lib.hid (show trTo ⟨st, sp, jn, ls⟩ u l (j + 1) = (true, out ++ [(xt, u)]) by rw [HS2.out]; unfold trs; rw [if_neg hq, if_pos ⟨rfl, hst⟩])
              have ho := hk2.alloc (.cells #[.int .i64 xt, .int .i64 u] 40)
              have HO := Lib.hid ho
              have hso := ho.bl.size
              clear hk2 hq ho
              go_wp2_with (at_builtin; go_loud (refine wpList_append_wdw rfl (.tmp 35) (.tmp 40) rfl wc.heap.size _ _ out rfl (by exact HO.out.own) wm.heap.size rfl (xt, u) (by exact Blk.new _ _ _) (by omega) (by exact hso) ?_); intro v1 wd hown1 hgrow1)
              have hkd := HO.out.grown _ hgrow1 hown1
              clear hown1 hgrow1
              go_roundw
              case rel => exact ⟨j + 1, by omega, by go_num, by rw [HE.out], by rw [HE.out]; exact hkd⟩
              case measure => simp [intOf]; omega
            · have HE := Lib.hid (show trTo ⟨st, sp, jn, ls⟩ u l (j + 1) = (false, out) by rw [HS2.out]; unfold trs; rw [if_neg hq, if_neg (fun h => hst h.2), if_neg (fun h => by simp at h)])
              have hst' : xv < st := by omega
              have HKD := Lib.hid hk2
              clear hk2 hq hst
              go_wp2_with fail
              go_roundw
              case rel => exact ⟨j + 1, by omega, by go_num, by rw [HE.out], by rw [HE.out]; exact HKD.out⟩
              case measure => simp [intOf]; omega
          · by_cases hsp : xv < sp
            · have HE := Lib.hid (show trTo ⟨st, sp, jn, ls⟩ u l (j + 1) = (false, setE out xt) by rw [HS2.out]; unfold trs; rw [if_neg hq, if_neg (fun h => by simp at h), if_pos ⟨rfl, hsp⟩])
              have hop := hl2.2 rfl
              obtain ⟨m, hm⟩ : ∃ m, m + 1 = out.length := ⟨out.length - 1, by omega⟩
              obtain ⟨g, cap, hv, hbg, hnc, hcm⟩ := own_form hk2.own (by omega)
              cases hv
              unfold maxLen at hcm
              have hmo : m < out.length := by omega
              obtain ⟨k0, k1⟩ := own_wdw hk2.own rfl m hmo
              have f1 := hk2.own.frozenAt (m * 2 + 1)
              have hwm : IntKind.i64.wrap ((out.length : Int) - 1) = (m : Int) := by rw [← hm]; exact (IntWalk.i64_in _ (by omega)).trans (by omega)
              have i1 : (0 : Int) ≤ (m : Int) := by omega
              have i2 : (m : Int) < (out.length : Int) := by omega
              have hkd := hk2.setLast m hm xt
              have HKD := Lib.hid hkd
              clear hkd hk2 hq hm
              go_wp2_with fail
              go_roundw
              case rel => exact ⟨j + 1, by omega, by go_num, by rw [HE.out], by rw [HE.out]; exact HKD.out⟩
              case measure => simp [intOf]; omega
            · have HE := Lib.hid (show trTo ⟨st, sp, jn, ls⟩ u l (j + 1) = (true, out) by rw [HS2.out]; unfold trs; rw [if_neg hq, if_neg (fun h => by simp at h), if_neg (fun h => hsp h.2)])
              have hsp' : sp ≤ xv := by omega
              have HKD := Lib.hid hk2
              clear hk2 hq hsp
              go_wp2_with fail
              go_roundw
              case rel => exact ⟨j + 1, by omega, by go_num, by rw [HE.out], by rw [HE.out]; exact HKD.out⟩
              case measure => simp [intOf]; omega
      · obtain rfl : j = posF l u := by omega
        go_wp2_with fail
        go_ret
        exact ⟨_, rfl, Rd.of_own hk.own, HBX.out.trans (hk.bl.mono HBX.out.size)⟩
end Go.Proofs.Ytjoknaglhahbaaa

/- joined (package batch), for windows within all moments. -/

namespace Go.Proofs.Ytjoknaglhahbaaa
open Go.RowKit
set_option linter.unusedVariables false
set_option linter.unusedSimpArgs false

set_option maxRecDepth 100000 in
set_option maxHeartbeats 4000000 in
theorem jnf_any (v : Value) (l : List (Int × Int)) (ap : Int) (w : World) (hR : RdWdw w v l) (hlong : l.length ≤ 5000) (hin : InF 345686400000 l) :
    Calls Try.prog 23 #[v, .int .i64 ap] w fun e w' => ∃ vr, e = .returned vr ∧ w'.ownsRow w.heap.size 40 2 vr (jnTo ap l l.length).length (wdwCells (jnTo ap l l.length)) ∧ Below w.heap.size w w' := by
  obtain ⟨pa, ca, rfl⟩ := hR.lenv
  have HR := Lib.hid hR
  have HL := Lib.hid (fun n => jnTo_len ap l n)
  have HI := Lib.hid (fun n (hn : n ≤ l.length) => jnTo_in ap _ l hin n hn)
  have HIN := Lib.hid hin
  clear hR hin
  go_enter Try.func23, Try.ntmps23
  go_wp2_with fail
  go_loopw [5, 11] (fun o i wr => ∃ j : Nat, j ≤ l.length ∧ i = .int .i64 (j : Int) ∧ StW w o (jnTo ap l j) wr) (fun _ i _ => l.length - (intOf i).toNat)
  case atStart => exact ⟨0, by omega, rfl, World.ownsRow_nil _ _ _ _, Below.refl _ _⟩
  case round =>
    obtain ⟨j, hj, rfl, hk⟩ := hrel
    by_cases hlt : j < l.length
    · have hl2 := HL.out j
      have hin2 := HI.out j hj
      have hRr : RdWdw wr _ l := Rd.below HR.out hk.bl
      obtain ⟨b, off, c, hv, hc1, hc2, hblt, hcell⟩ := RdWdw.at_ hRr (by omega)
      cases hv
      unfold maxLen at hc2
      obtain ⟨c0, c1⟩ := hcell j hlt
      have hyb : (0 ≤ (atW l j).1 ∧ (atW l j).1 ≤ 345686400000) ∧ 0 ≤ (atW l j).2 ∧ (atW l j).2 ≤ 345686400000 := by
        rw [← atW_eq l j hlt]; exact HIN.out _ (List.getElem_mem _)
      have hst : jnTo ap l (j + 1) = jnS ap (jnTo ap l j) (atW l j) := rfl
      generalize jnTo ap l j = out at *
      generalize atW l j = y at *
      obtain ⟨ya, yb⟩ := y
      simp only at hyb c0 c1
      have HST := Lib.hid hst
      have HK := Lib.hid hk
      have hb0r := hk.bl.size
      clear hst hk hcell hRr
      go_upto_region 5 with fail
      have hB := Blk.new wr 40 #[.int .i64 ya, .int .i64 yb]
      have hk2 := HK.out.alloc (.cells #[.int .i64 ya, .int .i64 yb] 40)
      generalize hwm : wr.alloc (.cells #[.int .i64 ya, .int .i64 yb] 40) = wm at *
      generalize wr.heap.size = Z at *
      clear hwm HK c0 c1
      have c0 := hB.cell 0
      have c1 := hB.cell 1
      obtain ⟨po, co, rfl⟩ := RdWdw.lenv (Rd.of_own hk2.own)
      have hol : out.length ≤ 5000 := by omega
      by_cases ho : out = []
      · subst ho
        have HE := Lib.hid (show jnTo ap l (j + 1) = [] ++ [(ya, yb)] by rw [HST.out]; simp [jnS])
        have HK2 := Lib.hid hk2
        have HBB := Lib.hid hB
        clear hk2 hB HST
        go_upto_region 6 with fail
        go_quiet (fail)
        go_upto_region 8 with fail
        have hk3 := HK2.out.drewN nq
        have hB3 : Blk (wm.drewN nq) Z 40 #[.int .i64 ya, .int .i64 yb] := HBB.out.drewN nq
        generalize wm.drewN nq = wz at *
        have e0 := hB3.cell 0
        have e1 := hB3.cell 1
        have ho := hk3.alloc (.cells #[.int .i64 ya, .int .i64 yb] 40)
        have HO := Lib.hid ho
        have hso := ho.bl.size
        clear ho hk3 hB3 c0 c1
        go_wp2_with (at_builtin; go_loud (refine wpList_append_wdw rfl (.tmp 38) (.tmp 40) rfl w.heap.size _ _ [] rfl (by exact HO.out.own) wz.heap.size rfl (ya, yb) (by exact Blk.new _ _ _) (by omega) (by exact hso) ?_); intro v1 wd hown1 hgrow1)
        have hkd := HO.out.grown _ hgrow1 hown1
        clear hown1 hgrow1
        go_roundw
        case rel => exact ⟨j + 1, by omega, by go_num, by rw [HE.out]; exact hkd⟩
        case measure => simp [intOf]; omega
      · obtain ⟨m, hm⟩ : ∃ m, m + 1 = out.length := ⟨out.length - 1, by have := List.length_pos_iff.2 ho; omega⟩
        obtain ⟨g, cap, hv, hbg, hnc, hcm⟩ := own_form hk2.own (by omega)
        cases hv
        unfold maxLen at hcm
        obtain ⟨k0, k1⟩ := own_wdw hk2.own rfl m (by omega)
        have f1 := hk2.own.frozenAt (m * 2 + 1)
        have hgt : out.getD (out.length - 1) (0, 0) = out[m]'(by omega) := by
          rw [show out.length - 1 = m by omega, List.getD_eq_getElem?_getD, List.getElem?_eq_getElem (by omega)]; rfl
        have hzb := hin2 (out[m]'(by omega)) (List.getElem_mem _)
        have hwm : IntKind.i64.wrap ((out.length : Int) - 1) = (m : Int) := by rw [← hm]; exact (IntWalk.i64_in _ (by omega)).trans (by omega)
        have hst2 : jnTo ap l (j + 1) = if ya - (out[m]'(by omega)).2 < ap then setE out yb else out ++ [(ya, yb)] := by
          rw [HST.out]; unfold jnS; rw [hgt]; simp [ho]
        generalize out[m]'(by omega) = z at *
        obtain ⟨za, zb⟩ := z
        simp only at k0 k1 hzb hst2
        have HST2 := Lib.hid hst2
        have hmo : m < out.length := by omega
        have i1 : (0 : Int) ≤ (m : Int) := by omega
        have i2 : (m : Int) < (out.length : Int) := by omega
        have d1 : decide ((0 : Int) ≤ (m : Int)) = true := by simp
        have hws : IntKind.i64.wrap (ya - zb) = ya - zb := IntWalk.i64_in _ (by omega)
        have HM := Lib.hid hm
        have HK2 := Lib.hid hk2
        have HBB := Lib.hid hB
        clear hk2 hB HST hst2 hgt hin2 hm ho
        go_upto_region 6 with fail
        by_cases hap : ya - zb < ap
        · have hd : decide (ya - zb < ap) = true := by simpa using hap
          go_quiet (fail)
          have HE := Lib.hid (show jnTo ap l (j + 1) = setE out yb by rw [HST2.out, if_pos hap])
          have hk3 := HK2.out.drewN nq
          have hB3 : Blk (wm.drewN nq) Z 40 #[.int .i64 ya, .int .i64 yb] := HBB.out.drewN nq
          generalize wm.drewN nq = wz at *
          have e1 := hB3.cell 1
          have f2 := hk3.own.frozenAt (m * 2 + 1)
          obtain ⟨_, k2⟩ := own_wdw hk3.own rfl m hmo
          have hkd := hk3.setLast m HM.out yb
          have HKD := Lib.hid hkd
          clear hkd hk3 hB3 c0 c1 k0 k1 f1
          go_wp2_with fail
          go_roundw
          case rel => exact ⟨j + 1, by omega, by go_num, by rw [HE.out]; exact HKD.out⟩
          case measure => simp [intOf]; omega
        · have hd : decide (ya - zb < ap) = false := by simpa using hap
          go_quiet (fail)
          go_upto_region 8 with fail
          have HE := Lib.hid (show jnTo ap l (j + 1) = out ++ [(ya, yb)] by rw [HST2.out, if_neg hap])
          have hk3 := HK2.out.drewN nq
          have hB3 : Blk (wm.drewN nq) Z 40 #[.int .i64 ya, .int .i64 yb] := HBB.out.drewN nq
          generalize wm.drewN nq = wz at *
          have e0 := hB3.cell 0
          have e1 := hB3.cell 1
          have ho := hk3.alloc (.cells #[.int .i64 ya, .int .i64 yb] 40)
          have HO := Lib.hid ho
          have hso := ho.bl.size
          clear ho hk3 hB3 c0 c1
          go_wp2_with (at_builtin; go_loud (refine wpList_append_wdw rfl (.tmp 38) (.tmp 40) rfl w.heap.size _ _ out rfl (by exact HO.out.own) wz.heap.size rfl (ya, yb) (by exact Blk.new _ _ _) (by omega) (by exact hso) ?_); intro v1 wd hown1 hgrow1)
          have hkd := HO.out.grown _ hgrow1 hown1
          clear hown1 hgrow1
          go_roundw
          case rel => exact ⟨j + 1, by omega, by go_num, by rw [HE.out]; exact hkd⟩
          case measure => simp [intOf]; omega
    · obtain rfl : j = l.length := by omega
      go_wp2_with fail
      go_ret
      exact ⟨_, rfl, hk.own, hk.bl⟩
end Go.Proofs.Ytjoknaglhahbaaa
