/- A law for regions that draw and hold loads beside calls AND stores into what was loaded: whatever order the operations come up in, a condition S holds behind each of them as long as none of the operations X (the stores) has come up; what X waits for may be taken first, also if it yields its value only where S holds. -/
import Derived.OrdersHeld
import Derived.RegionTactic
import Derived.Lib.Hide
namespace Go.Proofs.Ytdacdiigeainmaa
open Go Go.RowKit
section
variable {P : Program} {ops : Array Oper} {Q : Exit → Act → World → Prop} {md : Region.Mode} {S : World → Prop} {X : List Nat}

/-- Has one of X come up? -/
def someUp (X : List Nat) (listed : Array Bool) : Bool := X.any fun x => listed.getD x true

/-- Whatever order is picked, the end is met; and as long as none of X has come up S holds behind each operation. -/
def anyT (P : Program) (md : Region.Mode) (ops : Array Oper) (Q : Exit → Act → World → Prop) (S : World → Prop) (X : List Nat) : Nat → Array Bool → Act → World → Prop
  | 0, up, a, w => Region.ready md ops up = [] ∧ Q .normal a w
  | n + 1, up, a, w => (Region.ready md ops up = [] → Q .normal a w) ∧ ∀ i ∈ Region.ready md ops up,
      wpOp P ops Q i (fun b v => (someUp X (up.setIfInBounds i true) = false → S v) ∧ anyT P md ops Q S X n (up.setIfInBounds i true) b v) a w

theorem wpAny_of_anyT : ∀ (n : Nat) (up : Array Bool) (a : Act) (w : World), anyT P md ops Q S X n up a w → wpAny P md ops Q n up a w
  | 0, _, _, _, h => h
  | n + 1, _, _, _, h => ⟨h.1, fun i hi => wpOp_mono (fun b v hb => wpAny_of_anyT n _ b v hb.2) (h.2 i hi)⟩

theorem getD_two {up : Array Bool} {k : Nat} (h : up.getD k true = false) (h' : up.getD k false = true) : False := by
  rcases Nat.lt_or_ge k up.size with hk | hk
  · simp [hk] at h h'; rw [h] at h'; cases h'
  · simp [Array.getElem?_eq_none hk] at h

theorem someUp_up {up : Array Bool} {i : Nat} (h : someUp X (up.setIfInBounds i true) = false) : someUp X up = false := by
  unfold someUp at *
  rw [List.any_eq_false] at *
  intro x hx hu
  refine h x hx ?_
  by_cases hi : i = x
  · subst hi
    rcases Nat.lt_or_ge i up.size with hk | hk
    · simp [hk]
    · simp [hk]
  · rw [getD_set_ne true hi]; exact hu

theorem someUp_no {up : Array Bool} {p : Prop} (h : someUp X up = true) : someUp X up = false → p := fun h' => by rw [h] at h'; cases h'

theorem someUp_other {up : Array Bool} {i : Nat} (hi : i ∉ X) : someUp X (up.setIfInBounds i true) = someUp X up := by
  have h : ∀ (Y : List Nat), i ∉ Y → (Y.any fun x => (up.setIfInBounds i true).getD x true) = Y.any fun x => up.getD x true := by
    intro Y
    induction Y with
    | nil => intro _; rfl
    | cons y Y ih =>
      intro hy
      rw [List.any_cons, List.any_cons, ih (fun h => hy (List.mem_cons_of_mem _ h)), getD_set_ne true (fun h : i = y => hy (h ▸ List.mem_cons_self))]
  exact h X hi

/-- Do all of U wait for i, or for others of U? -/
def waitFor (md : Region.Mode) (ops : Array Oper) (i : Nat) (U : List Nat) : Bool :=
  U.all fun j => match ops[j]? with
    | some o => o.after.any fun e => Region.binds md e && (e.on == i || U.contains e.on)
    | none => false

theorem waits_not {i j : Nat} {U : List Nat} {up : Array Bool} (hW : waitFor md ops i U = true) (hu : ∀ u ∈ U, up.getD u true = false)
    (hi : i ∈ Region.ready md ops up) (hj : j ∈ Region.ready md ops up) : j ∉ U := by
  intro hU
  obtain ⟨_, o, ho, hall⟩ := mem_ready.1 hj
  have h1 := List.all_eq_true.1 hW j hU
  simp only [ho] at h1
  obtain ⟨e, he, hb⟩ : ∃ e ∈ o.after, (Region.binds md e && (e.on == i || U.contains e.on)) = true := by
    obtain ⟨k, hk, hb⟩ := Array.any_iff_exists.1 h1
    exact ⟨_, Array.getElem_mem hk, hb.2.2⟩
  simp only [Bool.and_eq_true, Bool.or_eq_true, beq_iff_eq, List.contains_iff_mem] at hb
  have h2 := hall e he hb.1
  rcases hb.2 with h3 | h3
  · exact getD_two (mem_ready.1 hi).1 (h3 ▸ h2)
  · exact getD_two (hu _ h3) h2

theorem anyT_first {S' : World → Prop} {i : Nat} {oi : Oper} {v : Value} {U : List Nat} (hi : ops[i]? = some oi)
    (hsel : ∀ (j : Nat) (o : Oper) cs b, ops[j]? = some o → o.op ≠ .select cs b) (hQ : ∀ c a w, Q (.panic c) (a.put oi.dst v) w → Q (.panic c) a w)
    (hiX : i ∉ X) (hW : waitFor md ops i U = true) (hm : (∀ w, S' w) ∨ ((∀ w, S w → S' w) ∧ ∀ x ∈ X, x ∈ U)) :
    ∀ (n : Nat) (up : Array Bool) (a : Act) (w : World), (∀ u ∈ U, up.getD u true = false) →
      (∀ j oj, ops[j]? = some oj → j ≠ i → up.getD j true = false → (∀ e ∈ oj.after, Region.binds md e = true → e.on ≠ i) → oi.apart ops oj = true) →
      i ∈ Region.ready md ops up → YieldsIf P ops S' oi v a → (someUp X up = false → S w) →
      anyT P md ops Q S X n (up.setIfInBounds i true) (a.put oi.dst v) w → anyT P md ops Q S X (n + 1) up a w := by
  have hS' : ∀ (up : Array Bool) (w : World), (∀ u ∈ U, up.getD u true = false) → (someUp X up = false → S w) → S' w := by
    intro up w hu hS
    rcases hm with h | ⟨h1, h2⟩
    · exact h w
    · refine h1 w (hS ?_)
      unfold someUp
      rw [List.any_eq_false]
      intro x hx h
      rw [hu x (h2 x hx)] at h
      cases h
  intro n
  induction n with
  | zero =>
    intro up a w hu _ hr hy hS H
    refine ⟨fun h => (by rw [h] at hr; cases hr), fun j hj => ?_⟩
    by_cases hji : j = i
    · subst hji; exact hy.wpOp hi (hS' up w hu hS) ⟨fun h => hS (someUp_up h), H⟩
    · have h0 := ready_mono hj hji
      rw [H.1] at h0
      cases h0
  | succ n ih =>
    intro up a w hu hfree hr hy hS H
    refine ⟨fun h => (by rw [h] at hr; cases hr), fun j hj => ?_⟩
    by_cases hji : j = i
    · subst hji; exact hy.wpOp hi (hS' up w hu hS) ⟨fun h => hS (someUp_up h), H⟩
    · have hjU := waits_not hW hu hr hj
      have h1 := H.2 j (ready_mono hj hji)
      obtain ⟨hjun, oj, hoj, hall⟩ := mem_ready.1 hj
      have hnot : ∀ e ∈ oj.after, Region.binds md e = true → e.on ≠ i := fun e he hb heq => getD_two (mem_ready.1 hr).1 (heq ▸ hall e he hb)
      have h2 := wpOp_putIf hoj (hfree j oj hoj hji hjun hnot) (fun cs b => hsel i oi cs b hi) (fun cs b => hsel j oj cs b hoj) hQ hy h1
      refine wpOp_mono (fun b z h3 => ?_) h2
      have hT : someUp X (up.setIfInBounds j true) = false → S z := fun h => h3.2.1 (by rw [Array.setIfInBounds_comm _ _ (Ne.symm hji), someUp_other hiX]; exact h)
      refine ⟨hT, ih (up.setIfInBounds j true) b z (fun u hU => ?_) (fun k ok hk hki hun hno => hfree k ok hk hki ?_ hno) (ready_mono hr (Ne.symm hji)) h3.1 hT ?_⟩
      · rw [getD_set_ne true (fun h : j = u => hjU (h ▸ hU))]; exact hu u hU
      · by_cases hjk : j = k
        · subst hjk; exact hjun
        · rw [getD_set_ne true hjk] at hun; exact hun
      · rw [Array.setIfInBounds_comm _ _ hji]; exact h3.2.2

/-- Take i first: it yields v in whatever world. -/
theorem anyT_take {i : Nat} {oi : Oper} (d : Option Tmp) (v : Value) {n : Nat} {up : Array Bool} {a : Act} {w : World} (hi : ops[i]? = some oi) (hd : oi.dst = d) (hs : Region.noSelect ops = true)
    (hf : Region.free md ops up i = true) (hr : ((Region.ready md ops up).contains i && !X.contains i) = true)
    (hQ : ∀ c a w, Q (.panic c) (a.put d v) w → Q (.panic c) a w) (hy : YieldsIf P ops (fun _ => True) oi v a) (hS : someUp X up = false → S w)
    (h : anyT P md ops Q S X n (up.setIfInBounds i true) (a.put d v) w) : anyT P md ops Q S X (n + 1) up a w := by
  subst hd
  simp only [Bool.and_eq_true, Bool.not_eq_true'] at hr
  exact anyT_first (U := []) hi (Region.noSelect_spec hs) hQ (fun h => by rw [List.contains_iff_mem.2 h] at hr; cases hr.2) rfl (.inl fun _ => trivial) n up a w
    (fun _ h => by cases h) (Region.free_spec hi hf) (by simpa using hr.1) hy hS h

/-- Take i first: it yields v wherever S holds, and all of X wait for it. -/
theorem anyT_takeS {i : Nat} {oi : Oper} (d : Option Tmp) (v : Value) (U : List Nat) {n : Nat} {up : Array Bool} {a : Act} {w : World} (hi : ops[i]? = some oi) (hd : oi.dst = d) (hs : Region.noSelect ops = true)
    (hf : Region.free md ops up i = true) (hr : ((Region.ready md ops up).contains i && !X.contains i && waitFor md ops i U && X.all U.contains && U.all (fun u => !up.getD u true)) = true)
    (hQ : ∀ c a w, Q (.panic c) (a.put d v) w → Q (.panic c) a w) (hy : YieldsIf P ops S oi v a) (hS : someUp X up = false → S w)
    (h : anyT P md ops Q S X n (up.setIfInBounds i true) (a.put d v) w) : anyT P md ops Q S X (n + 1) up a w := by
  subst hd
  simp only [Bool.and_eq_true, Bool.not_eq_true'] at hr
  obtain ⟨⟨⟨⟨h1, h2⟩, h3⟩, h4⟩, h5⟩ := hr
  exact anyT_first (U := U) hi (Region.noSelect_spec hs) hQ (fun h => by rw [List.contains_iff_mem.2 h] at h2; cases h2) h3
    (.inr ⟨fun _ h => h, fun x hx => List.contains_iff_mem.1 (List.all_eq_true.1 h4 x hx)⟩) n up a w
    (fun u hu => by have := List.all_eq_true.1 h5 u hu; simpa using this) (Region.free_spec hi hf) (by simpa using h1) hy hS h

/-- Whichever comes up next. -/
def AllT (P : Program) (md : Region.Mode) (ops : Array Oper) (Q : Exit → Act → World → Prop) (S : World → Prop) (X : List Nat) (n : Nat) (up : Array Bool) (a : Act) (w : World) (rs : List Nat) : Prop :=
  ∀ i ∈ rs, wpOp P ops Q i (fun b v => (someUp X (up.setIfInBounds i true) = false → S v) ∧ anyT P md ops Q S X n (up.setIfInBounds i true) b v) a w
theorem AllT.nil {n : Nat} {up : Array Bool} {a : Act} {w : World} : AllT P md ops Q S X n up a w [] := fun _ h => by cases h
theorem AllT.cons {n : Nat} {up : Array Bool} {a : Act} {w : World} {i : Nat} {o : Oper} {rs : List Nat} (ho : ops[i]? = some o)
    (h : ∀ K : Act → World → Prop, Hid (∀ b v, (someUp X (up.setIfInBounds i true) = false → S v) → ((someUp X (up.setIfInBounds i true) = false → S v) → anyT P md ops Q S X n (up.setIfInBounds i true) b v) → K b v) →
      if Region.wanted o (yielded ops a.tmps) = true then Oper.wp P o a w K Q else K (a.put o.dst undef) w)
    (hs : AllT P md ops Q S X n up a w rs) : AllT P md ops Q S X n up a w (i :: rs) := fun j hj => by
  rcases List.mem_cons.1 hj with rfl | hj
  · exact wpOp_step ho (fun K hK => h K (Lib.hid fun b v hS hn => hK b v ⟨hS, hn hS⟩))
  · exact hs j hj
theorem anyT_ready {rs : List Nat} {n : Nat} {up : Array Bool} {a : Act} {w : World} (hr : Region.ready md ops up = rs) (hne : rs ≠ [])
    (h : AllT P md ops Q S X n up a w rs) : anyT P md ops Q S X (n + 1) up a w := ⟨fun h0 => absurd (hr ▸ h0) hne, hr ▸ h⟩
theorem anyT_done {up : Array Bool} {a : Act} {w : World} (hr : Region.ready md ops up = []) (h : Q .normal a w) : ∀ n, anyT P md ops Q S X n up a w
  | 0 => ⟨hr, h⟩
  | _ + 1 => ⟨fun _ => h, by rw [hr]; simp⟩
/-- The beginning. -/
theorem wp_region_anyT (S : World → Prop) (X : List Nat) {id : Nat} {a : Act} {w : World} (hm : P.follows .mixedOrders = true) (hS : S w.drew)
    (h : S w.drew → anyT P .any ops Q S X ops.size (Array.replicate ops.size false) a w.drew) : (Code.region id ops true).wp P Q a w :=
  wp_region_any hm (wpAny_of_anyT _ _ _ _ (h hS))
end
end Go.Proofs.Ytdacdiigeainmaa
