/- runs (package query) as an iterator, for a right series and a right window. -/
import Derived.Test.YtmcojidaimeijaaItr
import Derived.Test.YtmcojidaimeijaaStrl
import Derived.Test.YtmcojidaimeijaaPos
import Derived.Sort.CutIn
namespace Go.Proofs.Ytmcojidaimeijaa
open Go.RowKit Go.Shelf
set_option linter.unusedVariables false
set_option linter.unusedSimpArgs false
attribute [local go_sem] Oper.semAt_some

/-- A run: a value, and when it begins and ends. -/
abbrev Rn := { x : Int × Int × Int // (-1000000 ≤ x.1 ∧ x.1 ≤ 1000000) ∧ 0 ≤ x.2.1 ∧ x.2.1 < x.2.2 ∧ x.2.2 ≤ 345686400000 }
def mkRn (v a b : Int) : Rn := if h : (-1000000 ≤ v ∧ v ≤ 1000000) ∧ 0 ≤ a ∧ a < b ∧ b ≤ 345686400000 then ⟨(v, a, b), h⟩ else ⟨(0, 0, 1), by decide⟩
theorem mkRn_eq {v a b : Int} (h : (-1000000 ≤ v ∧ v ≤ 1000000) ∧ 0 ≤ a ∧ a < b ∧ b ≤ 345686400000) : (mkRn v a b).1 = (v, a, b) := by unfold mkRn; rw [dif_pos h]
def encRn (x : Rn) : Array Value := #[.int .i64 x.1.1, .agg #[.int .i64 x.1.2.1, .int .i64 x.1.2.2]]
/-- The runs of stretches, of those with a quality at most q. -/
def rnsOf (q : Int) (r : List Str) : List Rn := (r.filter fun x => decide (x.s.q ≤ q)).map fun x => mkRn x.s.v x.a x.b
theorem rnsOf_snoc (q : Int) (r : List Str) (x : Str) : rnsOf q (r ++ [x]) = if x.s.q ≤ q then rnsOf q r ++ [mkRn x.s.v x.a x.b] else rnsOf q r := by
  unfold rnsOf
  rw [List.filter_append]
  split <;> rename_i h <;> simp [h]
theorem rnsOf_long (q : Int) (r : List Str) : (rnsOf q r).length ≤ r.length := by unfold rnsOf; rw [List.length_map]; exact List.length_filter_le _ _

theorem runs_any (v : Value) (n c : Nat) (pa : Option Addr) (hv : v = .slice pa n c) (f t q : Int) (w : World) :
    Calls Try.prog 90 #[v, .agg #[.int .i64 f, .int .i64 t], .int .i64 q] w fun e w' => e = .returned (.func (.func 119) #[] #[.pointer (some ⟨w.heap.size + 1, 0, none⟩), .pointer (some ⟨w.heap.size, 0, none⟩), .pointer (some ⟨w.heap.size + 1 + 1, 0, none⟩)]) ∧
      w' = ((w.alloc (.cells #[v] 26)).alloc (.cells #[.int .i64 f, .int .i64 t] 43)).alloc (.cells #[.int .i64 q] 3) := by
  subst hv
  go_enter Try.func90, Try.ntmps90
  go_wp2_with fail
  go_ret
  exact ⟨rfl, rfl⟩

/-- long, to the letter. -/
theorem long_eq (f t : Int) (w : World) (hW : 0 ≤ f ∧ f ≤ t ∧ t ≤ 345686400000) :
    Calls Try.prog 61 #[.agg #[.int .i64 f, .int .i64 t]] w fun e w' => e = .returned (.int .i64 (t - f)) ∧ w' = w.alloc (.cells #[.int .i64 f, .int .i64 t] 43) := by
  go_enter Try.func61, Try.ntmps61
  go_wp2_with fail
  go_ret
  exact ⟨rfl, rfl⟩

/-- What the iterator's round has at hand. -/
structure RnK (w0 : World) (bw bl bq : Nat) (v : Value) (l : List Smp) (f t q : Int) (W : World) : Prop where
  bw : Blk W bw 43 #[.int .i64 f, .int .i64 t]
  bl : Blk W bl 26 #[v]
  bq : Blk W bq 3 #[.int .i64 q]
  rs : RdS W 57 v l
  lo : Below w0.heap.size w0 W
section
variable {w0 W W' : World} {bw bl bq : Nat} {v : Value} {l : List Smp} {f t q : Int}
theorem RnK.step (h : RnK w0 bw bl bq v l f t q W) (hb : Below W.heap.size W W') : RnK w0 bw bl bq v l f t q W' :=
  ⟨h.bw.below hb h.bw.lt, h.bl.below hb h.bl.lt, h.bq.below hb h.bq.lt, Rd.below h.rs hb, h.lo.trans (hb.mono h.lo.size)⟩
theorem RnK.kpn (h : RnK w0 bw bl bq v l f t q W) (hR : RdS w0 57 v l) (hk : Kpn w0.heap.size [bw, bl, bq] W W') : RnK w0 bw bl bq v l f t q W' :=
  ⟨hk.blk (by simp) h.bw, hk.blk (by simp) h.bl, hk.blk (by simp) h.bq, Rd.below hR (h.lo.trans hk.be), h.lo.trans hk.be⟩
theorem RnK.drew (h : RnK w0 bw bl bq v l f t q W) : RnK w0 bw bl bq v l f t q W.drew := h.step (show Below W.heap.size W W.drew from ⟨rfl, rfl, rfl, Nat.le_refl _, fun _ _ => rfl⟩)
end
theorem blk_two {W : World} {b : Nat} {t : TypeId} {x y : Value} (h : Blk W b t #[x, y]) (u : Value) : Blk (W.setCell ⟨b, 1, none⟩ u) b t #[x, u] := by
  unfold Blk at h ⊢
  simp [World.setCell, Array.getElem?_modify, h]
theorem Below.grow {W W' : World} (h : Below W.heap.size W W') : W.grownBy W' none := ⟨h.os, h.tape, h.output, h.size, fun k hk _ => h.block k hk⟩

set_option maxRecDepth 100000 in
set_option maxHeartbeats 4000000 in
theorem runs1_in (n lk bw bl bq : Nat) (w0 : World) (v : Value) (l : List Smp) (f t q : Int) (hn : 1 ≤ n) (hR : RdS w0 57 v l) (hS : serErr l = 0) (hW : 0 ≤ f ∧ f ≤ t ∧ t ≤ 345686400000) (J Jx : List Rn → World → Prop)
    (W : World) (hJ : AbidesFrom W.heap.size J)
    (hY : ∀ pre x W, J pre W → pre.length < l.length → YieldAt Fence.wide (n - 1) Try.prog lk (encRn x) W fun e W' =>
      (e = .returned (.bool true) ∧ J (pre ++ [x]) W' ∧ Kpn w0.heap.size [bw, bl, bq] W W') ∨ (e = .returned (.bool false) ∧ Jx (pre ++ [x]) W'))
    (hK : RnK w0 bw bl bq v l f t q W) (h0 : J [] W) :
    CallsIn Fence.wide n Try.prog 119 #[.func (.yield lk) #[] #[], .pointer (some ⟨bw, 0, none⟩), .pointer (some ⟨bl, 0, none⟩), .pointer (some ⟨bq, 0, none⟩)] W fun e W' => (∃ v, e = .returned v) ∧
      ((∃ ys, ys = rnsOf q (strL l f t) ∧ J ys W') ∨ (∃ pre, True ∧ Jx pre W')) := by
  obtain ⟨pa, ca, rfl⟩ := hR.lenv
  have hrise := serErr_rise hS
  have hlong := (serErr_good hS).1
  have c0 := hK.bw.cell 0
  have c1 := hK.bw.cell 1
  refine callsIn_of_wp Try.func119 rfl trivial ?_ rfl
  simp only [Try.ntmps119, List.size_toArray, List.length_cons, List.length_nil, Nat.reduceAdd, Nat.reduceSub, Array.replicate_succ, Array.replicate_zero, List.push_toArray, List.append_toArray, List.nil_append, List.cons_append]
  by_cases hft : f = t
  · subst hft
    have hz : ((f - f) == 0) = true := by simp
    have HE := Lib.hid (show strL l f f = [] from strL_empty (by omega))
    gi_wp2_with (refine ⟨trivial, ?_⟩; gi_at_call 61; refine (callsIn_wide.2 (long_eq f f _ hW)).mono ?_; rintro e w1 ⟨rfl, rfl⟩)
    refine bodyPost_ret (results_none rfl _ _ _) rfl ?_
    have hj := hJ _ _ _ none h0 (Below.grow ((Below.refl _ W).alloc (Nat.le_refl _) (.cells #[.int .i64 f, .int .i64 f] 43))) (fun r e => by cases e)
    exact ⟨⟨_, rfl⟩, by rw [HE.out]; first | exact .inl ⟨_, rfl, hj⟩ | exact .inl hj⟩
  · have hz : ((t - f) == 0) = false := by simp; omega
    have hlt : f < t := by omega
    have hfp := strF_le (l := l) hlt
    have hpl := posF_le l t
    have hpl1 := posF_le l (f + 1)
    have hst : (if (posF l (f + 1) : Int) - 1 < 0 then (0 : Int) else (posF l (f + 1) : Int) - 1) = (strF l f : Int) := by unfold strF; split <;> omega
    obtain ⟨hca, hcm⟩ : l.length ≤ ca ∧ ca ≤ 9223372036854775807 := by
      obtain ⟨_, pa', ca', hv, h1, h2, _⟩ := hR
      cases hv
      unfold maxLen at h2
      exact ⟨h1, by omega⟩
    have hk1 := hK.step ((Below.refl _ W).alloc (Nat.le_refl _) (.cells #[.int .i64 f, .int .i64 t] 43))
    have hb1 := (Below.refl _ W).alloc (Nat.le_refl _) (.cells #[.int .i64 f, .int .i64 t] 43)
    generalize hw1 : W.alloc (.cells #[.int .i64 f, .int .i64 t] 43) = w1 at *
    have d0 := hk1.bw.cell 0
    have d1 := hk1.bw.cell 1
    have d2 := hk1.bl.cell 0
    have hp1 := position_any (.slice pa l.length ca) l (f + 1) w1 hk1.rs hrise hlong
    gi_wp2_with (first
      | (refine ⟨trivial, ?_⟩; gi_at_call 61; refine (callsIn_wide.2 (long_eq f t _ hW)).mono ?_; rintro e w' ⟨rfl, rfl⟩; rw [hw1])
      | (refine ⟨trivial, ?_⟩; gi_at_call 100; refine (callsIn_wide.2 hp1).mono ?_; rintro e w2 ⟨rfl, hb2⟩))
    have hk2 := hk1.step hb2
    have hbb2 := hb1.trans (hb2.mono hb1.size)
    have hp2 := fun w' (h : RdS w' 57 (.slice pa l.length ca) l) => position_any (.slice pa l.length ca) l t w' h hrise hlong
    have hat : ∀ w', RnK w0 bw bl bq (.slice pa l.length ca) l f t q w' → w'.cell? ⟨bw, 0, none⟩ = some (.int .i64 f) ∧ w'.cell? ⟨bw, 1, none⟩ = some (.int .i64 t) ∧ w'.cell? ⟨bl, 0, none⟩ = some (.slice pa l.length ca) ∧ w'.cell? ⟨bq, 0, none⟩ = some (.int .i64 q) := fun w' h => ⟨h.bw.cell 0, h.bw.cell 1, h.bl.cell 0, h.bq.cell 0⟩
    have HAT := Lib.hid hat
    have HP2 := Lib.hid hp2
    have HFP := Lib.hid hfp
    have HRISE := Lib.hid hrise
    have HLP := Lib.hid (show strL l f t = strTo l f t (posF l t) from strL_pos hrise)
    have HFI := Lib.hid (show strTo l f t (strF l f) = [] from strTo_first hrise _ (Nat.le_refl _))
    have HIN := Lib.hid (fun i (h1 : strF l f ≤ i) (h2 : i < posF l t) => strOne_in (f := f) (t := t) hrise hlt h1 h2)
    clear hk1 hb1 hb2 hw1 c0 c1 d0 d1 d2 hp1 hst hz hat hp2 hpl1 hK
    obtain ⟨d0, d1, d2, d3⟩ := HAT.out _ hk2
    have hmx : Try.prog.follows .mixedOrders = true := by kernel_rfl
    generalize strF l f = i at *
    generalize posF l t = j at *
    have k1 : (0 : Int) ≤ (i : Int) := by omega
    have k2 : (i : Int) ≤ (j : Int) := by omega
    have k3 : (j : Int) ≤ (ca : Int) := by omega
    gi_cut [26, 27, 28] from 20 (fun s26 s27 s28 wx => ∃ (pc : Option Addr) (cc D : Nat), s26 = .slice pc D cc ∧ s27 = .int .i64 (D : Int) ∧ s28 = .int .i64 0 ∧ j = i + D ∧ RnK w0 bw bl bq (.slice pa l.length ca) l f t q wx ∧ Below W.heap.size W wx ∧ (0 < D → ∃ b off, pa = some ⟨b, off, none⟩ ∧ pc = some ⟨b, off + i * 3, none⟩))
    case first =>
      by_cases hci : ca = i
      · subst hci
        gi_region_with_o (refine ⟨trivial, ?_⟩; gi_at_call 100; refine (callsIn_wide.2 (HP2.out _ (by first | exact hk2.rs | exact hk2.drew.rs))).mono ?_; rintro e w3 ⟨rfl, hb3⟩; have hk3 := RnK.step (by first | exact hk2 | exact hk2.drew) hb3; have hbb3 : Below W.heap.size W w3 := (by first | exact hbb2.trans (hb3.mono hbb2.size) | exact hbb2.drew.trans (hb3.mono hbb2.size)); obtain ⟨d0, d1, d2, d3⟩ := HAT.out _ hk3)
        all_goals
          gi_wp2
          gi_meet
          exact ⟨pa, 0, j - ca, rfl, rfl, rfl, by omega, hk3, hbb3, fun h0 => by omega⟩
      · gi_region_with_o (refine ⟨trivial, ?_⟩; gi_at_call 100; refine (callsIn_wide.2 (HP2.out _ (by first | exact hk2.rs | exact hk2.drew.rs))).mono ?_; rintro e w3 ⟨rfl, hb3⟩; have hk3 := RnK.step (by first | exact hk2 | exact hk2.drew) hb3; have hbb3 : Below W.heap.size W w3 := (by first | exact hbb2.trans (hb3.mono hbb2.size) | exact hbb2.drew.trans (hb3.mono hbb2.size)); obtain ⟨d0, d1, d2, d3⟩ := HAT.out _ hk3)
        all_goals
          gi_wp2
          gi_meet
          exact ⟨_, ca - i, j - i, rfl, rfl, rfl, by omega, hk3, hbb3, fun h0 => by obtain ⟨b, off, c, hv, _⟩ := RdS.at_ hk3.rs (by omega); cases hv; exact ⟨b, off, rfl, by simp [Addr.add]⟩⟩
    case rest =>
      obtain ⟨pc, cc, D, rfl, rfl, rfl, hD, hk3, hb3, hpc⟩ := hcut
      have hj3 := hJ _ _ _ none h0 (Below.grow hb3) (fun r e => by cases e)
      clear hk2 hbb2 d0 d1 d2 d3 k1 k2 k3
      gi_wp2
      gi_loopw [28] (fun x wr => ∃ m : Nat, m ≤ D ∧ x = .int .i64 (m : Int) ∧ J (rnsOf q (strTo l f t (i + m))) wr ∧ RnK w0 bw bl bq (.slice pa l.length ca) l f t q wr) (fun x _ => D - (intOf x).toNat)
      case atStart => exact ⟨0, by omega, rfl, by rw [Nat.add_zero, HFI.out]; exact hj3, hk3⟩
      case round =>
        clear hj3 hk3 hb3
        obtain ⟨m, hm, rfl, hj, hk⟩ := hrel
        by_cases hmD : m < D
        · obtain ⟨b, off, rfl, rfl⟩ := hpc (by omega)
          have hil : i + m < l.length := by omega
          have hin := HIN.out (i + m) (by omega) (by omega)
          have hsn := rnsOf_snoc q (strTo l f t (i + m)) ⟨strA l f (i + m), strB l t (i + m), atS l (i + m)⟩
          have hnx : strTo l f t (i + (m + 1)) = strTo l f t (i + m) ++ [⟨strA l f (i + m), strB l t (i + m), atS l (i + m)⟩] := by rw [← hin.2]; rfl
          rw [← hnx] at hsn
          have hsl : (rnsOf q (strTo l f t (i + m))).length < l.length := by have := rnsOf_long q (strTo l f t (i + m)); have := strTo_long l f t (i + m); omega
          have hab := hin.1
          have hAg := strA_ge l f (i + m)
          have hBl := strB_le l t (i + m)
          obtain ⟨e1, e2, e3, hbl⟩ := hk.rs.atv (i + m) hil
          rw [show off + (i + m) * 3 = off + i * 3 + m * 3 from by omega] at e1 e2 e3
          have hvt := serErr_vt hS (i + m)
          have hAd : strA l f (i + m) = if (atS l (i + m)).t < f then f else (atS l (i + m)).t := rfl
          have hBd : strB l t (i + m) = if i + m + 1 < l.length ∧ (atS l (i + m + 1)).t < t then (atS l (i + m + 1)).t else t := rfl
          have hn1 := fun (h : i + m + 1 < l.length) => hk.rs.atv (i + m + 1) h
          have hn2 := serErr_vt hS (i + m + 1)
          generalize strA l f (i + m) = A at *
          generalize strB l t (i + m) = B at *
          generalize atS l (i + m) = x at *
          generalize atS l (i + m + 1) = y at *
          generalize strTo l f t (i + m) = R at *
          obtain ⟨c0, c1, c2, c3⟩ := HAT.out _ hk
          have z1 := hk.bw.lt
          have z2 := hk.bl.lt
          have z3 := hk.bq.lt
          have HSN := Lib.hid hsn
          have HBD := Lib.hid hBd
          have HN1 := Lib.hid hn1
          have HJ := Lib.hid hJ
          have HY := Lib.hid hY
          have hb5 : Below wr.heap.size wr ((wr.alloc (.cells #[.int .i64 x.t, .int .i64 x.v, .int .i64 x.q] 57)).alloc (.cells #[.int .i64 A, .int .i64 t] 43)) := ((Below.refl _ wr).alloc (Nat.le_refl _) _).alloc (by simp) _
          have bx5 : Blk ((wr.alloc (.cells #[.int .i64 x.t, .int .i64 x.v, .int .i64 x.q] 57)).alloc (.cells #[.int .i64 A, .int .i64 t] 43)) wr.heap.size 57 #[.int .i64 x.t, .int .i64 x.v, .int .i64 x.q] := (Blk.new wr _ _).alloc _
          have br5 : Blk ((wr.alloc (.cells #[.int .i64 x.t, .int .i64 x.v, .int .i64 x.q] 57)).alloc (.cells #[.int .i64 A, .int .i64 t] 43)) (wr.heap.size + 1) 43 #[.int .i64 A, .int .i64 t] := Blk.new1 _ _ _ _
          obtain ⟨p, hp⟩ : ∃ p : Nat, (i : Int) + (m : Int) + 1 = (p : Int) := ⟨i + m + 1, by omega⟩
          have hpn : p = i + m + 1 := by omega
          have HPN := Lib.hid hpn
          rw [← hpn] at HN1 HBD
          clear hin hnx hsn hBd hn1 hJ hY hpn
          by_cases hA1 : x.t < f
          all_goals
            (try rw [if_pos hA1] at hAd)
            (try rw [if_neg hA1] at hAd)
            have HAD := Lib.hid hAd
            rw [HAD.out] at hb5 bx5 br5
            clear hAd
            gi_upto_if 48 with fail
            gi_cut [] from 48 (fun wx => Blk wx wr.heap.size 57 #[.int .i64 x.t, .int .i64 x.v, .int .i64 x.q] ∧ Blk wx (wr.heap.size + 1) 43 #[.int .i64 A, .int .i64 B] ∧ Below wr.heap.size wr wx)
            case first =>
              by_cases hpl2 : p < l.length
              · obtain ⟨n1, n2, n3, _⟩ := HN1.out hpl2
                have hB1 : B = if y.t < t then y.t else t := by rw [HBD.out]; simp [hpl2]
                have q1 : (0 : Int) ≤ (p : Int) := by omega
                have q2 : (p : Int) < (l.length : Int) := by omega
                have f1 := br5.frozen 1
                have c4 := br5.cell 1
                generalize hw5 : (wr.alloc (.cells #[.int .i64 x.t, .int .i64 x.v, .int .i64 x.q] 57)).alloc (.cells #[.int .i64 _, .int .i64 t] 43) = w5 at *
                have n1' : w5.cell? ⟨b, off + p * 3, none⟩ = some (.int .i64 y.t) := (hb5.cell (p := ⟨b, off + p * 3, none⟩) hbl).trans n1
                have c0' := (hk.step hb5).bl.cell 0
                have c1' := (hk.step hb5).bw.cell 1
                have HB1 := Lib.hid hB1
                clear hB1
                have k5 := (hk.step hb5)
                have v1 := k5.bw.lt
                have v2 := k5.bl.lt
                gi_wp2
                gi_region
                all_goals gi_wp2
                all_goals gi_meet
                all_goals
                  first
                  | (have hB2 : B = y.t := by rw [HB1.out]; split <;> omega
                     rw [HAD.out, hB2]
                     exact ⟨(Below.heap_setCell _ _ _ _ (by simp)).trans bx5, blk_two br5 _, (hb5.setCell (by simp) _).drew⟩)
                  | (have hB2 : B = t := by rw [HB1.out]; split <;> omega
                     rw [HAD.out, hB2]
                     exact ⟨(Below.heap_setCell _ _ _ _ (by simp)).trans bx5, blk_two br5 _, (hb5.setCell (by simp) _).drew⟩)
              · have hB1 : B = t := by rw [HBD.out]; simp [hpl2]
                have hpl3 : ¬ ((p : Int) < (l.length : Int)) := by omega
                have HB1 := Lib.hid hB1
                clear hB1
                gi_wp2
                gi_meet
                rw [HB1.out, HAD.out]
                exact ⟨bx5, br5, hb5⟩
            case rest =>
              obtain ⟨bx6, br6, hb6⟩ := hcut
              have hk6 := hk.step hb6
              have hj6 := HJ.out _ _ _ none hj (Below.grow hb6) (fun r e => by cases e)
              have d0 := bx6.cell 1
              have d1 := bx6.cell 2
              have d2 := br6.cell 0
              have d3 := br6.cell 1
              have d4 := hk6.bq.cell 0
              clear hb5 bx5 br5 bx6 br6 hb6 e1 e2 e3 c0 c1 c2 c3 hj hk
              by_cases hq1 : x.q ≤ q
              · have hmk := mkRn_eq (v := x.v) (a := A) (b := B) ⟨hvt.1, by omega, hab, by omega⟩
                generalize hz : mkRn x.v A B = z at *
                obtain ⟨fn, tmps, assign, body, hy, hR3⟩ := HY.out _ z wc hj6 hsl
                rw [show encRn z = #[.int .i64 x.v, .agg #[.int .i64 A, .int .i64 B]] from by unfold encRn; rw [hmk]] at hy
                gi_wp2
                refine hR3.mono ?_
                rintro e W3 (⟨rfl, hJ3, hk3⟩ | ⟨rfl, hJx3⟩)
                · have hk7 := hk6.kpn hR hk3
                  gi_wp2
                  go_roundw
                  case rel => exact ⟨m + 1, by omega, by go_num, by rw [HSN.out, if_pos (by omega)]; exact hJ3, hk7⟩
                  case measure => simp [intOf]; omega
                · gi_wp2
                  refine bodyPost_ret (results_none rfl _ _ _) rfl ?_
                  exact ⟨⟨_, rfl⟩, .inr ⟨_, trivial, hJx3⟩⟩
              · gi_wp2
                refine ⟨fun _ h => (by cases h), ?_⟩
                gi_wp2
                go_roundw
                case rel => exact ⟨m + 1, by omega, by go_num, by rw [HSN.out, if_neg (by omega)]; exact hj6, hk6⟩
                case measure => simp [intOf]; omega
        · have hmE : m = D := by omega
          have HLE := Lib.hid (show strL l f t = strTo l f t (i + m) by rw [HLP.out, hD, hmE])
          gi_wp2
          go_end0
          refine ⟨⟨_, rfl⟩, ?_⟩
          rw [HLE.out]
          first | exact .inl ⟨_, rfl, hj⟩ | exact .inl hj

theorem runs_stops (n bw bl bq : Nat) (w0 : World) (v : Value) (l : List Smp) (f t q : Int) (hn : 1 ≤ n) (hR : RdS w0 57 v l) (hS : serErr l = 0) (hW : 0 ≤ f ∧ f ≤ t ∧ t ≤ 345686400000) (w : World) (hK : RnK w0 bw bl bq v l f t q w) :
    SeqStopsK Fence.wide n Try.prog 119 #[.pointer (some ⟨bw, 0, none⟩), .pointer (some ⟨bl, 0, none⟩), .pointer (some ⟨bq, 0, none⟩)] encRn (Kpn w0.heap.size [bw, bl, bq]) (fun ys => ys = rnsOf q (strL l f t)) (fun _ => True) l.length w :=
  fun lk J Jx W hb hJ _ hY h0 => runs1_in n lk bw bl bq w0 v l f t q hn hR hS hW J Jx W hJ hY (hK.step hb) h0
end Go.Proofs.Ytmcojidaimeijaa
