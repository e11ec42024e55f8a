import Derived.Test.YtmcojidaimeijaaRecon
import Derived.Deep.RegionHeld3
import Derived.Deep.DeepCutAuto
import Derived.RegionTactic
import Derived.WalkLawsBesides
import Derived.Test.YtmcojidaimeijaaRq05
import Derived.Test.YtmcojidaimeijaaApp
/- The contract of ValueAt (package query). -/

namespace Go.Proofs.Ytmcojidaimeijaa
open Go.RowKit
set_option linter.unusedVariables false
set_option linter.unusedSimpArgs false

/-- A point: its value and its quality. -/
structure Pnt where
  n : Int
  d : Int
  q : Int
/-- The value at a moment. -/
def valO (l : List Smp) (st : Bool) (t : Int) : Option Pnt :=
  if posF l (t + 1) = 0 then none
  else if st = true ∨ (atS l (posF l (t + 1) - 1)).t = t ∨ (atS l (posF l (t + 1) - 1)).q = 2 ∨ posF l (t + 1) = l.length ∨ (atS l (posF l (t + 1))).q = 2 then
    some ⟨(atS l (posF l (t + 1) - 1)).v, 1, (atS l (posF l (t + 1) - 1)).q⟩
  else some ⟨(lineAt (atS l (posF l (t + 1) - 1)) (atS l (posF l (t + 1))) t).1, (lineAt (atS l (posF l (t + 1) - 1)) (atS l (posF l (t + 1))) t).2, if (atS l (posF l (t + 1) - 1)).q < (atS l (posF l (t + 1))).q then (atS l (posF l (t + 1))).q else (atS l (posF l (t + 1) - 1)).q⟩
def pntV (t : Int) : Option Pnt → Value
  | none => .agg #[.int .i64 0, .int .i64 0, .int .i64 0, .int .i64 0]
  | some p => .agg #[.int .i64 t, .int .i64 p.n, .int .i64 p.d, .int .i64 p.q]

/-- What valueAt keeps. -/
structure VK (w0 : World) (v : Value) (l : List Smp) (w : World) : Prop where
  b : Blk w w0.heap.size 37 #[.int .i64 0, .int .i64 0, .int .i64 0, .int .i64 0]
  rd : RdS w 57 v l
  be : Below w0.heap.size w0 w
theorem VK.step {w0 w w' : World} {v : Value} {l : List Smp} (hb : Below w.heap.size w w') (h : VK w0 v l w) : VK w0 v l w' :=
  ⟨h.b.below hb h.b.lt, h.rd.below hb (Nat.le_refl _), h.be.trans (hb.mono h.be.size)⟩
theorem VK.start (w : World) (v : Value) (l : List Smp) (h : RdS w 57 v l) :
    VK w v l (w.alloc (.cells #[.int .i64 0, .int .i64 0, .int .i64 0, .int .i64 0] 37)) :=
  ⟨Blk.new w _ _, Rd.alloc h _, (Below.refl _ w).alloc (Nat.le_refl _) _⟩

/-- And the boxes of the sample and of the point. -/
structure VB (w0 : World) (v : Value) (l : List Smp) (t : Int) (P : Smp) (n : Nat) (w : World) : Prop where
  k : VK w0 v l w
  p : Blk w n 57 #[.int .i64 P.t, .int .i64 P.v, .int .i64 P.q]
  x : Blk w (n + 1) 37 #[.int .i64 t, .int .i64 P.v, .int .i64 1, .int .i64 P.q]
theorem VB.step {w0 w w' : World} {v : Value} {l : List Smp} {t : Int} {P : Smp} {n : Nat} (hb : Below w.heap.size w w') (h : VB w0 v l t P n w) : VB w0 v l t P n w' :=
  ⟨VK.step hb h.k, h.p.below hb h.p.lt, h.x.below hb h.x.lt⟩
theorem VB.stored {w0 w : World} {v : Value} {l : List Smp} {t : Int} {P : Smp} {n : Nat} (h : VB w0 v l t P n w) (u u' : Value) :
    RdS ((w.setCell ⟨n + 1, 1, none⟩ u).setCell ⟨n + 1, 2, none⟩ u') 57 v l ∧ Blk ((w.setCell ⟨n + 1, 1, none⟩ u).setCell ⟨n + 1, 2, none⟩ u') n 57 #[.int .i64 P.t, .int .i64 P.v, .int .i64 P.q] := by
  obtain ⟨cs, h3⟩ := h.x.setSame (i := 1) u
  exact ⟨Rd.setCell (Rd.setCell h.k.rd _ _ (h.x.no (by decide))) _ _ (h3.no (by decide)), (h.p.setOther (by simp) _).setOther (by simp) _⟩
theorem VB.drew {w0 w : World} {v : Value} {l : List Smp} {t : Int} {P : Smp} {n : Nat} (h : VB w0 v l t P n w) : VB w0 v l t P n w.drew :=
  VB.step (show Below w.heap.size w w.drew from ⟨rfl, rfl, rfl, Nat.le_refl _, fun _ _ => rfl⟩) h

theorem ptSet2 {w : World} {n : Nat} {T : TypeId} {a b c d : Value} (h : Blk w n T #[a, b, c, d]) (u u' : Value) : Blk ((w.setCell ⟨n, 1, none⟩ u).setCell ⟨n, 2, none⟩ u') n T #[a, u, u', d] := by
  unfold Blk at h ⊢
  simp [World.setCell, Array.getElem?_modify, h]
theorem ptSet3 {w : World} {n : Nat} {T : TypeId} {a b c d : Value} (h : Blk w n T #[a, b, c, d]) (u : Value) : Blk (w.setCell ⟨n, 3, none⟩ u) n T #[a, b, c, u] := by
  unfold Blk at h ⊢
  simp [World.setCell, Array.getElem?_modify, h]

set_option maxRecDepth 100000 in
set_option maxHeartbeats 4000000 in
theorem valueAt_any (v : Value) (l : List Smp) (st : Bool) (t : Int) (w : World) (hR : RdS w 57 v l) (hS : Rise none l) (hlong : l.length ≤ 5000) (hr : ∀ i, i < l.length → Right (atS l i)) (ht : 0 ≤ t ∧ t ≤ 345686400000) :
    Calls Try.prog 55 #[v, .bool st, .int .i64 t] w fun e w' => e = .returned (.tuple #[pntV t (valO l st t), .bool (valO l st t).isSome]) ∧ Below w.heap.size w w' := by
  obtain ⟨pa, ca, rfl⟩ := hR.lenv
  have hdef : valO l st t = if posF l (t + 1) = 0 then none
    else if st = true ∨ (atS l (posF l (t + 1) - 1)).t = t ∨ (atS l (posF l (t + 1) - 1)).q = 2 ∨ posF l (t + 1) = l.length ∨ (atS l (posF l (t + 1))).q = 2 then
      some ⟨(atS l (posF l (t + 1) - 1)).v, 1, (atS l (posF l (t + 1) - 1)).q⟩
    else some ⟨(lineAt (atS l (posF l (t + 1) - 1)) (atS l (posF l (t + 1))) t).1, (lineAt (atS l (posF l (t + 1) - 1)) (atS l (posF l (t + 1))) t).2, if (atS l (posF l (t + 1) - 1)).q < (atS l (posF l (t + 1))).q then (atS l (posF l (t + 1))).q else (atS l (posF l (t + 1) - 1)).q⟩ := rfl
  have hk0 := VK.start w (.slice pa l.length ca) l hR
  have hps := position_any (.slice pa l.length ca) l (t + 1) _ hk0.rd hS hlong
  have hpl := posF_le l (t + 1)
  have hpa := pos_around l (t + 1) hS
  generalize valO l st t = O at *
  generalize posF l (t + 1) = p at *
  have HDEF := Lib.hid hdef
  have HPS := Lib.hid hps
  have HK0 := Lib.hid hk0
  have HPA := Lib.hid hpa
  have HRR := Lib.hid hr
  clear hdef hps hk0 hpa hr hR hS
  go_enter Try.func55, Try.ntmps55
  go_wp2_with fail
  refine HPS.out.mono ?_
  rintro e w1 ⟨rfl, hb1⟩
  have hk := VK.step hb1 HK0.out
  clear HK0 HPS hb1
  have r0 : w1.cell? ⟨w.heap.size, 0, none⟩ = some (.int .i64 0) := hk.b.cell 0
  have r1 : w1.cell? ⟨w.heap.size, 1, none⟩ = some (.int .i64 0) := hk.b.cell 1
  have r2 : w1.cell? ⟨w.heap.size, 2, none⟩ = some (.int .i64 0) := hk.b.cell 2
  have r3 : w1.cell? ⟨w.heap.size, 3, none⟩ = some (.int .i64 0) := hk.b.cell 3
  have g0 : w1.frozen? ⟨w.heap.size, 0, none⟩ = false := hk.b.frozen 0
  have g1 : w1.frozen? ⟨w.heap.size, 1, none⟩ = false := hk.b.frozen 1
  have g2 : w1.frozen? ⟨w.heap.size, 2, none⟩ = false := hk.b.frozen 2
  have g3 : w1.frozen? ⟨w.heap.size, 3, none⟩ = false := hk.b.frozen 3
  have hz := hk.b.lt
  have hbl := hk.be
  by_cases hp0 : p = 0
  · have hO : O = none := by rw [HDEF.out, if_pos hp0]
    subst hO
    subst hp0
    go_wp2_with fail
    refine bodyPost_ret (v := .tuple #[pntV t none, .bool false]) (by simp [results, Try.results55, go_sem, r0, r1, r2, r3, pntV]) rfl ⟨rfl, ?_⟩
    exact hbl.trans (by (repeat (refine Below.setCell ?_ (by exact Nat.le_refl _) _)); exact Below.refl _ _)
  · have hp0' : ((p : Int) == 0) = false := by simp; omega
    obtain ⟨b, off, c, hv, hc1, hc2, hblt, hcell⟩ := RdS.at_ hk.rd (by omega)
    cases hv
    unfold maxLen at hc2
    obtain ⟨c0, c1, c2⟩ := hcell (p - 1) (by omega)
    have j1 : (0 : Int) ≤ (p : Int) - 1 := by omega
    have j2 : (p : Int) - 1 < (l.length : Int) := by omega
    have j3 : ((p : Int) - 1).toNat = p - 1 := by omega
    have hz1 : w.heap.size < w1.heap.size + 1 := by omega
    have hkb : VB w (.slice (some ⟨b, off, none⟩) l.length ca) l t (atS l (p - 1)) w1.heap.size ((w1.alloc (.cells #[.int .i64 (atS l (p - 1)).t, .int .i64 (atS l (p - 1)).v, .int .i64 (atS l (p - 1)).q] 57)).alloc (.cells #[.int .i64 t, .int .i64 (atS l (p - 1)).v, .int .i64 1, .int .i64 (atS l (p - 1)).q] 37)) :=
      ⟨VK.step ((Below.refl _ _).alloc (Nat.le_refl _) _) (VK.step ((Below.refl _ _).alloc (Nat.le_refl _) _) hk), (Blk.new _ _ _).alloc _, Blk.new1 _ _ _ _⟩
    have i1 : (0 : Int) ≤ (p : Int) := by omega
    have hO1 := HDEF.out
    rw [if_neg hp0] at hO1
    have HP := Lib.hid (show atS l (p - 1) = atS l (p - 1) from rfl)
    have HO1 := Lib.hid hO1
    have hrp := HRR.out (p - 1) (by omega)
    have hrx := fun h : p < l.length => HRR.out p h
    have hlp := HPA.out.1 (p - 1) (by omega) (by omega)
    have hlx := HPA.out.2
    clear hO1 HDEF HRR HPA r0 r1 r2 r3 g0 g1 g2 g3 hcell hk
    generalize hPe : atS l (p - 1) = P at *
    generalize hXe : atS l p = X at *
    have HPE := Lib.hid hPe
    have HXE := Lib.hid hXe
    clear hPe hXe HP
    go_upto_region 6 with fail
    generalize (w1.alloc (.cells #[.int .i64 P.t, .int .i64 P.v, .int .i64 P.q] 57)).alloc (.cells #[.int .i64 t, .int .i64 P.v, .int .i64 1, .int .i64 P.q] 37) = W2 at *
    have hne : ¬ w1.heap.size = w.heap.size := by omega
    have hne2 : ¬ w1.heap.size + 1 = w.heap.size := by omega
    clear c0 c1 c2 hbl hblt hz1
    generalize w1.heap.size = n at *
    have r0 : W2.cell? ⟨w.heap.size, 0, none⟩ = some (.int .i64 0) := hkb.k.b.cell 0
    have r1 : W2.cell? ⟨w.heap.size, 1, none⟩ = some (.int .i64 0) := hkb.k.b.cell 1
    have r2 : W2.cell? ⟨w.heap.size, 2, none⟩ = some (.int .i64 0) := hkb.k.b.cell 2
    have r3 : W2.cell? ⟨w.heap.size, 3, none⟩ = some (.int .i64 0) := hkb.k.b.cell 3
    have g0 : W2.frozen? ⟨w.heap.size, 0, none⟩ = false := hkb.k.b.frozen 0
    have g1 : W2.frozen? ⟨w.heap.size, 1, none⟩ = false := hkb.k.b.frozen 1
    have g2 : W2.frozen? ⟨w.heap.size, 2, none⟩ = false := hkb.k.b.frozen 2
    have g3 : W2.frozen? ⟨w.heap.size, 3, none⟩ = false := hkb.k.b.frozen 3
    have p0 : W2.cell? ⟨n, 0, none⟩ = some (.int .i64 P.t) := hkb.p.cell 0
    have p1 : W2.cell? ⟨n, 1, none⟩ = some (.int .i64 P.v) := hkb.p.cell 1
    have p2 : W2.cell? ⟨n, 2, none⟩ = some (.int .i64 P.q) := hkb.p.cell 2
    have x0 : W2.cell? ⟨n + 1, 0, none⟩ = some (.int .i64 t) := hkb.x.cell 0
    have x1 : W2.cell? ⟨n + 1, 1, none⟩ = some (.int .i64 P.v) := hkb.x.cell 1
    have x2 : W2.cell? ⟨n + 1, 2, none⟩ = some (.int .i64 1) := hkb.x.cell 2
    have x3 : W2.cell? ⟨n + 1, 3, none⟩ = some (.int .i64 P.q) := hkb.x.cell 3
    have hbe := hkb.k.be
    by_cases hs : st = true ∨ P.t = t ∨ P.q = 2 ∨ p = l.length ∨ X.q = 2
    · have HO := Lib.hid (show O = some ⟨P.v, 1, P.q⟩ by rw [HO1.out, if_pos hs])
      have HS := Lib.hid hs
      clear hs hrx hlx hrp hlp HO1
      cases st
      · by_cases ht1 : P.t = t
        · have ht1' : (P.t == t) = true := by simpa using ht1
          clear ht1 hkb
          go_wp2_with fail
          refine bodyPost_ret (v := .tuple #[pntV t (some ⟨P.v, 1, P.q⟩), .bool true]) (by simp [results, Try.results55, go_sem, r0, r1, r2, r3, pntV]) rfl ⟨by rw [HO.out]; rfl, ?_⟩
          exact hbe.trans (by (repeat (refine Below.setCell ?_ (by exact Nat.le_refl _) _)); exact Below.refl _ _)
        · have ht1' : (P.t == t) = false := by simpa using ht1
          by_cases hq1 : P.q = 2
          · have hq1' : (P.q == 2) = true := by simpa using hq1
            clear ht1 hq1 hkb
            go_wp2_with fail
            refine bodyPost_ret (v := .tuple #[pntV t (some ⟨P.v, 1, P.q⟩), .bool true]) (by simp [results, Try.results55, go_sem, r0, r1, r2, r3, pntV]) rfl ⟨by rw [HO.out]; rfl, ?_⟩
            exact hbe.trans (by (repeat (refine Below.setCell ?_ (by exact Nat.le_refl _) _)); exact Below.refl _ _)
          · have hq1' : (P.q == 2) = false := by simpa using hq1
            by_cases hpn : p = l.length
            · have hpn' : ((p : Int) == (l.length : Int)) = true := by simp; omega
              clear ht1 hq1 hpn hkb
              go_wp2_with fail
              refine bodyPost_ret (v := .tuple #[pntV t (some ⟨P.v, 1, P.q⟩), .bool true]) (by simp [results, Try.results55, go_sem, r0, r1, r2, r3, pntV]) rfl ⟨by rw [HO.out]; rfl, ?_⟩
              exact hbe.trans (by (repeat (refine Below.setCell ?_ (by exact Nat.le_refl _) _)); exact Below.refl _ _)
            · have hpn' : ((p : Int) == (l.length : Int)) = false := by simp; omega
              have hxq : X.q = 2 := by
                rcases HS.out with h | h | h | h | h
                · cases h
                · exact absurd h ht1
                · exact absurd h hq1
                · exact absurd h hpn
                · exact h
              have hxq' : (X.q == 2) = true := by simpa using hxq
              have hplt : (p : Int) < (l.length : Int) := by omega
              have n2 : W2.cell? ⟨b, off + p * 3 + 2, none⟩ = some (.int .i64 X.q) := by rw [← HXE.out]; exact (hkb.k.rd.atv p (by omega)).2.2.1
              clear ht1 hq1 hpn hkb hxq
              go_wp2_with fail
              refine bodyPost_ret (v := .tuple #[pntV t (some ⟨P.v, 1, P.q⟩), .bool true]) (by simp [results, Try.results55, go_sem, r0, r1, r2, r3, pntV]) rfl ⟨by rw [HO.out]; rfl, ?_⟩
              exact hbe.trans (by (repeat (refine Below.setCell ?_ (by exact Nat.le_refl _) _)); exact Below.refl _ _)
      · clear hkb
        go_wp2_with fail
        refine bodyPost_ret (v := .tuple #[pntV t (some ⟨P.v, 1, P.q⟩), .bool true]) (by simp [results, Try.results55, go_sem, r0, r1, r2, r3, pntV]) rfl ⟨by rw [HO.out]; rfl, ?_⟩
        exact hbe.trans (by (repeat (refine Below.setCell ?_ (by exact Nat.le_refl _) _)); exact Below.refl _ _)
    · have hst : st = false := by cases st; · rfl
                                  · exact absurd (.inl rfl) hs
      have ht1' : (P.t == t) = false := by simpa using fun h => hs (.inr (.inl h))
      have hq1' : (P.q == 2) = false := by simpa using fun h => hs (.inr (.inr (.inl h)))
      have hpn : ¬ p = l.length := fun h => hs (.inr (.inr (.inr (.inl h))))
      have hpn' : ((p : Int) == (l.length : Int)) = false := by simp; omega
      have hxq' : (X.q == 2) = false := by simpa using fun h => hs (.inr (.inr (.inr (.inr h))))
      have hplt : (p : Int) < (l.length : Int) := by omega
      have HO := Lib.hid (show O = some ⟨(lineAt P X t).1, (lineAt P X t).2, if P.q < X.q then X.q else P.q⟩ by rw [HO1.out, if_neg hs])
      have hon := fun w => onLine_any P X t w hrp (hrx (by omega)) (by have := hlx (by omega); omega) (by have := hlx (by omega); omega)
      have hat : ∀ w', RdS w' 57 (.slice (some ⟨b, off, none⟩) l.length ca) l → Blk w' n 57 #[.int .i64 P.t, .int .i64 P.v, .int .i64 P.q] → w'.cell? ⟨b, off + p * 3, none⟩ = some (.int .i64 X.t) ∧ w'.cell? ⟨b, off + p * 3 + 1, none⟩ = some (.int .i64 X.v) ∧ w'.cell? ⟨b, off + p * 3 + 2, none⟩ = some (.int .i64 X.q) ∧ w'.cell? ⟨n, 0, none⟩ = some (.int .i64 P.t) ∧ w'.cell? ⟨n, 1, none⟩ = some (.int .i64 P.v) ∧ w'.cell? ⟨n, 2, none⟩ = some (.int .i64 P.q) := fun w' h hp => by
        have h1 := h.atv p (by omega)
        rw [HXE.out] at h1
        exact ⟨h1.1, h1.2.1, h1.2.2.1, hp.cell 0, hp.cell 1, hp.cell 2⟩
      have HAT := Lib.hid hat
      have HON := Lib.hid hon
      generalize lineAt P X t = V at *
      subst hst
      obtain ⟨n0, n1, n2, _⟩ := hat _ hkb.k.rd hkb.p
      clear hs HO1 hrp hrx hlp hlx hpn hat hon
      go_upto_region 8 with fail
      go_region_held3 (fun w' => w'.cell? ⟨b, off + p * 3, none⟩ = some (.int .i64 X.t) ∧ w'.cell? ⟨b, off + p * 3 + 1, none⟩ = some (.int .i64 X.v) ∧ w'.cell? ⟨b, off + p * 3 + 2, none⟩ = some (.int .i64 X.q) ∧ w'.cell? ⟨n, 0, none⟩ = some (.int .i64 P.t) ∧ w'.cell? ⟨n, 1, none⟩ = some (.int .i64 P.v) ∧ w'.cell? ⟨n, 2, none⟩ = some (.int .i64 P.q))
        (first | exact HAT.out _ hkk.k.rd hkk.p | exact HAT.out _ hkb.k.rd hkb.p | exact HAT.out _ (hkk.stored _ _).1 (hkk.stored _ _).2 | go_keep)
        (first | (go_at_call 101; refine (HON.out _).mono ?_; rintro e wk ⟨rfl, hbk⟩; have hkk := VB.step hbk (by first | assumption | exact VB.drew (by assumption)); have t0 : wk.frozen? ⟨n + 1, 1, none⟩ = false := hkk.x.frozen 1; have t1 : wk.frozen? ⟨n + 1, 2, none⟩ = false := hkk.x.frozen 2; have t2 : wk.cell? ⟨n + 1, 1, none⟩ = some (.int .i64 P.v) := hkk.x.cell 1; have t3 : wk.cell? ⟨n + 1, 2, none⟩ = some (.int .i64 1) := hkk.x.cell 2; clear hbk))
      go_upto_region 9 with fail
      have hbk := hkk.k.be
      have hsr := hkk.stored (.int .i64 V.1) (.int .i64 V.2)
      have hx3 : Blk ((wk.setCell ⟨n + 1, 1, none⟩ (.int .i64 V.1)).setCell ⟨n + 1, 2, none⟩ (.int .i64 V.2)) (n + 1) 37 #[.int .i64 t, .int .i64 V.1, .int .i64 V.2, .int .i64 P.q] := ptSet2 hkk.x _ _
      have hb3 : Blk ((wk.setCell ⟨n + 1, 1, none⟩ (.int .i64 V.1)).setCell ⟨n + 1, 2, none⟩ (.int .i64 V.2)) w.heap.size 37 #[.int .i64 0, .int .i64 0, .int .i64 0, .int .i64 0] := (hkk.k.b.setOther (by simp; omega) _).setOther (by simp; omega) _
      have hbe3 : Below w.heap.size w ((wk.setCell ⟨n + 1, 1, none⟩ (.int .i64 V.1)).setCell ⟨n + 1, 2, none⟩ (.int .i64 V.2)) := (hbk.setCell (by simp; omega) _).setCell (by simp; omega) _
      obtain ⟨m0, m1, m2, q0, q1, q2⟩ := HAT.out _ hsr.1 hsr.2
      clear hkk t0 t1 t2 t3 hbk hsr
      generalize (wk.setCell ⟨n + 1, 1, none⟩ (.int .i64 V.1)).setCell ⟨n + 1, 2, none⟩ (.int .i64 V.2) = w5 at *
      have f3 : w5.frozen? ⟨n + 1, 3, none⟩ = false := hx3.frozen 3
      have y0 : w5.cell? ⟨n + 1, 0, none⟩ = some (.int .i64 t) := hx3.cell 0
      have y1 : w5.cell? ⟨n + 1, 1, none⟩ = some (.int .i64 V.1) := hx3.cell 1
      have y2 : w5.cell? ⟨n + 1, 2, none⟩ = some (.int .i64 V.2) := hx3.cell 2
      have y3 : w5.cell? ⟨n + 1, 3, none⟩ = some (.int .i64 P.q) := hx3.cell 3
      clear r0 r1 r2 r3 g0 g1 g2 g3 p0 p1 p2 x0 x1 x2 x3 hbe n0 n1 n2
      go_region
      clear y0 y1 y2 y3 f3
      generalize hQ : (if P.q < X.q then X.q else P.q) = Q at *
      have HQ := Lib.hid hQ
      clear hQ
      have hx4 : Blk (w5.setCell ⟨n + 1, 3, none⟩ (.int .i64 Q)).drew (n + 1) 37 #[.int .i64 t, .int .i64 V.1, .int .i64 V.2, .int .i64 Q] := ptSet3 hx3 _
      have hb4 : Blk (w5.setCell ⟨n + 1, 3, none⟩ (.int .i64 Q)).drew w.heap.size 37 #[.int .i64 0, .int .i64 0, .int .i64 0, .int .i64 0] := hb3.setOther (by simp; omega) _
      have hbe4 : Below w.heap.size w (w5.setCell ⟨n + 1, 3, none⟩ (.int .i64 Q)).drew := (hbe3.setCell (by simp; omega) _).drew
      generalize (w5.setCell ⟨n + 1, 3, none⟩ (.int .i64 Q)).drew = w6 at *
      have y0 : w6.cell? ⟨n + 1, 0, none⟩ = some (.int .i64 t) := hx4.cell 0
      have y1 : w6.cell? ⟨n + 1, 1, none⟩ = some (.int .i64 V.1) := hx4.cell 1
      have y2 : w6.cell? ⟨n + 1, 2, none⟩ = some (.int .i64 V.2) := hx4.cell 2
      have y3 : w6.cell? ⟨n + 1, 3, none⟩ = some (.int .i64 Q) := hx4.cell 3
      have r0 : w6.cell? ⟨w.heap.size, 0, none⟩ = some (.int .i64 0) := hb4.cell 0
      have r1 : w6.cell? ⟨w.heap.size, 1, none⟩ = some (.int .i64 0) := hb4.cell 1
      have r2 : w6.cell? ⟨w.heap.size, 2, none⟩ = some (.int .i64 0) := hb4.cell 2
      have r3 : w6.cell? ⟨w.heap.size, 3, none⟩ = some (.int .i64 0) := hb4.cell 3
      have g0 : w6.frozen? ⟨w.heap.size, 0, none⟩ = false := hb4.frozen 0
      have g1 : w6.frozen? ⟨w.heap.size, 1, none⟩ = false := hb4.frozen 1
      have g2 : w6.frozen? ⟨w.heap.size, 2, none⟩ = false := hb4.frozen 2
      have g3 : w6.frozen? ⟨w.heap.size, 3, none⟩ = false := hb4.frozen 3
      go_wp2_with fail
      refine bodyPost_ret (v := .tuple #[pntV t (some ⟨V.1, V.2, Q⟩), .bool true]) (by simp [results, Try.results55, go_sem, r0, r1, r2, r3, pntV]) rfl ⟨by rw [HO.out]; rfl, ?_⟩
      exact hbe4.trans (by (repeat (refine Below.setCell ?_ (by exact Nat.le_refl _) _)); exact Below.refl _ _)

theorem pntV_agg (t : Int) (O : Option Pnt) : ∃ a b c d : Int, pntV t O = .agg #[.int .i64 a, .int .i64 b, .int .i64 c, .int .i64 d] := by
  cases O with
  | none => exact ⟨0, 0, 0, 0, rfl⟩
  | some p => exact ⟨t, p.n, p.d, p.q, rfl⟩
def vatE (l : List Smp) (t : Int) : Int := if serErr l ≠ 0 then serErr l else if inB t 0 345686399999 = false then 1 else 0
def vatO (l : List Smp) (st : Bool) (t : Int) : Option Pnt := if vatE l t = 0 then valO l st t else none

set_option maxRecDepth 100000 in
set_option maxHeartbeats 4000000 in
theorem publicValueAt_any (v : Value) (l : List Smp) (st : Bool) (t : Int) (w : World) (hR : RdS w 57 v l) :
    Calls Try.prog 16 #[v, .bool st, .int .i64 t] w fun e w' => e = .returned (.tuple #[pntV t (vatO l st t), .bool (vatO l st t).isSome, .int .i64 (vatE l t)]) ∧ Below w.heap.size w w' := by
  have hE : vatE l t = if serErr l ≠ 0 then serErr l else if inB t 0 345686399999 = false then 1 else 0 := rfl
  have hO : vatO l st t = if vatE l t = 0 then valO l st t else none := rfl
  generalize vatO l st t = O at *
  generalize vatE l t = E at *
  have HE := Lib.hid hE
  have HO := Lib.hid hO
  have hk0 := VK.start w v l hR
  have HK0 := Lib.hid hk0
  clear hE hO hR hk0
  go_enter Try.func16, Try.ntmps16
  go_wp2_with fail
  refine (checkSeries_any v l _ HK0.out.rd).mono ?_
  rintro e w1 ⟨rfl, hb1⟩
  have hk := VK.step hb1 HK0.out
  clear HK0 hb1
  have r0 : w1.cell? ⟨w.heap.size, 0, none⟩ = some (.int .i64 0) := hk.b.cell 0
  have r1 : w1.cell? ⟨w.heap.size, 1, none⟩ = some (.int .i64 0) := hk.b.cell 1
  have r2 : w1.cell? ⟨w.heap.size, 2, none⟩ = some (.int .i64 0) := hk.b.cell 2
  have r3 : w1.cell? ⟨w.heap.size, 3, none⟩ = some (.int .i64 0) := hk.b.cell 3
  have g0 : w1.frozen? ⟨w.heap.size, 0, none⟩ = false := hk.b.frozen 0
  have g1 : w1.frozen? ⟨w.heap.size, 1, none⟩ = false := hk.b.frozen 1
  have g2 : w1.frozen? ⟨w.heap.size, 2, none⟩ = false := hk.b.frozen 2
  have g3 : w1.frozen? ⟨w.heap.size, 3, none⟩ = false := hk.b.frozen 3
  have hz := hk.b.lt
  have hbl := hk.be
  by_cases hS : serErr l = 0
  · have hS' : (serErr l != 0) = false := by simpa using hS
    have HS := Lib.hid hS
    clear hS
    go_wp2_with fail
    refine (moment_any t _).mono ?_
    rintro e w2 ⟨rfl, rfl⟩
    cases hT : inB t 0 345686399999
    · have hE1 : E = 1 := by rw [HE.out, if_neg (by rw [HS.out]; simp), if_pos hT]
      have HE1 := Lib.hid hE1
      clear hT hE1
      go_wp2_with fail
      refine bodyPost_ret (v := .tuple #[pntV t none, .bool false, .int .i64 1]) (by simp [results, Try.results16, go_sem, r0, r1, r2, r3, pntV]) rfl ⟨by rw [HO.out, if_neg (by rw [HE1.out]; omega), HE1.out]; rfl, ?_⟩
      exact hbl.trans (by (repeat (refine Below.setCell ?_ (by exact Nat.le_refl _) _)); exact Below.refl _ _)
    · have hE1 : E = 0 := by rw [HE.out, if_neg (by rw [HS.out]; simp), if_neg (by rw [hT]; simp)]
      have HE1 := Lib.hid hE1
      have hO1 : O = valO l st t := by rw [HO.out, if_pos hE1]
      have HO1 := Lib.hid hO1
      have hTT := inB_true.1 hT
      have hva := valueAt_any v l st t w1 hk.rd (serErr_rise HS.out) (serErr_good HS.out).1 (fun i _ => ⟨(serErr_vt HS.out i).2, (serErr_vt HS.out i).1⟩) (by omega)
      rw [← hO1] at hva
      obtain ⟨a, b', c, d, hp⟩ := pntV_agg t O
      rw [hp] at hva
      have HP := Lib.hid hp
      have HVA := Lib.hid hva
      clear hT hE1 hO1 hp hva
      go_wp2_with fail
      refine HVA.out.mono ?_
      rintro e w3 ⟨rfl, hb3⟩
      have hk3 := VK.step hb3 hk
      have hz3 := hk3.b.lt
      have hb4 : Blk (w3.alloc (.cells #[.int .i64 a, .int .i64 b', .int .i64 c, .int .i64 d] 37)) w.heap.size 37 #[.int .i64 0, .int .i64 0, .int .i64 0, .int .i64 0] := hk3.b.alloc _
      have hx4 := Blk.new w3 37 #[.int .i64 a, .int .i64 b', .int .i64 c, .int .i64 d]
      have hbe4 := hk3.be.alloc hk3.be.size (.cells #[.int .i64 a, .int .i64 b', .int .i64 c, .int .i64 d] 37)
      clear hb3 r0 r1 r2 r3 g0 g1 g2 g3 hk hbl hk3
      go_upto_region 7 with fail
      have hne : ¬ w3.heap.size = w.heap.size := by omega
      generalize w3.alloc (.cells #[.int .i64 a, .int .i64 b', .int .i64 c, .int .i64 d] 37) = w6 at *
      generalize w3.heap.size = n at *
      have y0 : w6.cell? ⟨n, 0, none⟩ = some (.int .i64 a) := hx4.cell 0
      have y1 : w6.cell? ⟨n, 1, none⟩ = some (.int .i64 b') := hx4.cell 1
      have y2 : w6.cell? ⟨n, 2, none⟩ = some (.int .i64 c) := hx4.cell 2
      have y3 : w6.cell? ⟨n, 3, none⟩ = some (.int .i64 d) := hx4.cell 3
      have r0 : w6.cell? ⟨w.heap.size, 0, none⟩ = some (.int .i64 0) := hb4.cell 0
      have r1 : w6.cell? ⟨w.heap.size, 1, none⟩ = some (.int .i64 0) := hb4.cell 1
      have r2 : w6.cell? ⟨w.heap.size, 2, none⟩ = some (.int .i64 0) := hb4.cell 2
      have r3 : w6.cell? ⟨w.heap.size, 3, none⟩ = some (.int .i64 0) := hb4.cell 3
      have g0 : w6.frozen? ⟨w.heap.size, 0, none⟩ = false := hb4.frozen 0
      have g1 : w6.frozen? ⟨w.heap.size, 1, none⟩ = false := hb4.frozen 1
      have g2 : w6.frozen? ⟨w.heap.size, 2, none⟩ = false := hb4.frozen 2
      have g3 : w6.frozen? ⟨w.heap.size, 3, none⟩ = false := hb4.frozen 3
      go_wp2_with fail
      refine bodyPost_ret (v := .tuple #[.agg #[.int .i64 a, .int .i64 b', .int .i64 c, .int .i64 d], .bool O.isSome, .int .i64 0]) (by simp [results, Try.results16, go_sem, r0, r1, r2, r3]) rfl ⟨by rw [HP.out, HE1.out], ?_⟩
      exact hbe4.trans (by (repeat (refine Below.setCell ?_ (by exact Nat.le_refl _) _)); exact Below.refl _ _)
  · have hS' : (serErr l != 0) = true := by simpa using hS
    have hE1 : E = serErr l := by rw [HE.out, if_pos hS]
    have HS := Lib.hid hS
    have HE1 := Lib.hid hE1
    clear hS hE1
    go_wp2_with fail
    refine bodyPost_ret (v := .tuple #[pntV t none, .bool false, .int .i64 (serErr l)]) (by simp [results, Try.results16, go_sem, r0, r1, r2, r3, pntV]) rfl ⟨by rw [HO.out, if_neg (by rw [HE1.out]; exact HS.out), HE1.out]; rfl, ?_⟩
    exact hbl.trans (by (repeat (refine Below.setCell ?_ (by exact Nat.le_refl _) _)); exact Below.refl _ _)
end Go.Proofs.Ytmcojidaimeijaa

/- What frames are (mathematics): they begin at samples that start them, they end after they began, they are apart. -/

namespace Go.Proofs.Ytmcojidaimeijaa
open Go.RowKit
set_option linter.unusedVariables false
set_option linter.unusedSimpArgs false

/-- A frame of t begins at the moment p. -/
def Begs (t : Trg) (l : List Smp) (p : Int) : Prop := ∃ i, i < l.length ∧ p = (atS l i).t ∧ (atS l i).q ≠ 2 ∧ t.st ≤ (atS l i).v

structure FrG (t : Trg) (l : List Smp) (u : Int) (n : Nat) (S : Bool × List (Int × Int)) : Prop where
  beg : ∀ y ∈ S.2, Begs t l y.1 ∧ (∀ j, n ≤ j → j < l.length → y.1 < (atS l j).t)
  lt : ∀ y ∈ S.2, y.1 < y.2 ∧ y.2 ≤ u
  apart : S.2.Pairwise fun a b => a.2 ≤ b.1
  past : S.1 = false → ∀ y ∈ S.2, ∀ j, n ≤ j → j < l.length → y.2 ≤ (atS l j).t
  cur : S.1 = true → ∃ out a, S.2 = out ++ [(a, u)] ∧ ∀ y ∈ out, y.2 ≤ a

theorem frG_to {t : Trg} {l : List Smp} {u : Int} (hr : Rise none l) (n : Nat) (hn : n ≤ l.length) (hu : ∀ j, j < n → (atS l j).t < u) : FrG t l u n (trTo t u l n) := by
  induction n with
  | zero => exact ⟨fun y h => (by simp [trTo] at h), fun y h => (by simp [trTo] at h), (by simp [trTo]), fun _ y h => (by simp [trTo] at h), fun h => (by simp [trTo] at h)⟩
  | succ n ih =>
    have h := ih (by omega) fun j hj => hu j (by omega)
    have hun := hu n (by omega)
    have hlt : ∀ j, n < j → j < l.length → (atS l n).t < (atS l j).t := fun j h1 h2 => rise_ltA hr n j h1 h2
    rw [show trTo t u l (n + 1) = trs t u (trTo t u l n) (atS l n) from rfl]
    generalize trTo t u l n = S at *
    obtain ⟨c, out⟩ := S
    obtain ⟨h1, h2, h3, h4, h5⟩ := h
    simp only at h1 h2 h3 h4 h5
    unfold trs
    by_cases hq : (atS l n).q = 2
    · rw [if_pos hq]
      exact ⟨fun y hy => ⟨(h1 y hy).1, fun j hj => (h1 y hy).2 j (by omega)⟩, h2, h3, fun hc y hy j hj => h4 hc y hy j (by omega), h5⟩
    · rw [if_neg hq]
      by_cases hs : c = false ∧ t.st ≤ (atS l n).v
      · rw [if_pos hs]
        have hp := h4 hs.1
        refine ⟨fun y hy => ?_, fun y hy => ?_, ?_, fun hc => (by simp at hc), fun _ => ⟨out, (atS l n).t, rfl, fun y hy => hp y hy n (Nat.le_refl _) (by omega)⟩⟩
        · rcases List.mem_append.1 hy with hy | hy
          · exact ⟨(h1 y hy).1, fun j hj => (h1 y hy).2 j (by omega)⟩
          · rw [List.mem_singleton.1 hy]
            exact ⟨⟨n, by omega, rfl, hq, hs.2⟩, fun j hj hjl => hlt j (by omega) hjl⟩
        · rcases List.mem_append.1 hy with hy | hy
          · exact h2 y hy
          · rw [List.mem_singleton.1 hy]
            exact ⟨hun, Int.le_refl _⟩
        · refine List.pairwise_append.2 ⟨h3, List.pairwise_singleton _ _, fun a ha b hb => ?_⟩
          rw [List.mem_singleton.1 hb]
          exact hp a ha n (Nat.le_refl _) (by omega)
      · rw [if_neg hs]
        by_cases he : c = true ∧ (atS l n).v < t.sp
        · rw [if_pos he]
          obtain ⟨o2, a, e, ho⟩ := h5 he.1
          subst e
          rw [setE_snoc]
          have ha := h1 (a, u) (by simp)
          have hat : a < (atS l n).t := ha.2 n (Nat.le_refl _) (by omega)
          obtain ⟨p1, _, p3⟩ := List.pairwise_append.1 h3
          refine ⟨fun y hy => ?_, fun y hy => ?_, ?_, fun _ y hy j hj hjl => ?_, fun hc => (by simp at hc)⟩
          · rcases List.mem_append.1 hy with hy | hy
            · have := h1 y (List.mem_append_left _ hy)
              exact ⟨this.1, fun j hj => this.2 j (by omega)⟩
            · rw [List.mem_singleton.1 hy]
              exact ⟨ha.1, fun j hj => ha.2 j (by omega)⟩
          · rcases List.mem_append.1 hy with hy | hy
            · exact h2 y (List.mem_append_left _ hy)
            · rw [List.mem_singleton.1 hy]
              exact ⟨hat, Int.le_of_lt hun⟩
          · refine List.pairwise_append.2 ⟨p1, List.pairwise_singleton _ _, fun x hx b hb => ?_⟩
            rw [List.mem_singleton.1 hb]
            exact ho x hx
          · have hnj := hlt j (by omega) hjl
            rcases List.mem_append.1 hy with hy | hy
            · have := ho y hy
              omega
            · rw [List.mem_singleton.1 hy]
              exact Int.le_of_lt hnj
        · rw [if_neg he]
          exact ⟨fun y hy => ⟨(h1 y hy).1, fun j hj => (h1 y hy).2 j (by omega)⟩, h2, h3, fun hc y hy j hj => h4 hc y hy j (by omega), h5⟩

structure JnG (P : Int → Prop) (ap u : Int) (r : List (Int × Int)) (n : Nat) (out : List (Int × Int)) : Prop where
  beg : ∀ y ∈ out, P y.1
  lt : ∀ y ∈ out, y.1 < y.2 ∧ y.2 ≤ u
  apart : out.Pairwise fun a b => a.2 ≤ b.1 ∧ ap ≤ b.1 - a.2
  past : ∀ y ∈ out, ∀ j, n ≤ j → j < r.length → y.2 ≤ (atW r j).1

theorem snoc_of {l : List (Int × Int)} (h : l ≠ []) : ∃ a z, l = a ++ [z] ∧ l.getD (l.length - 1) (0, 0) = z := by
  refine ⟨l.dropLast, l.getLast h, (List.dropLast_concat_getLast h).symm, ?_⟩
  have hl : 0 < l.length := List.length_pos_iff.2 h
  rw [List.getD_eq_getElem?_getD, List.getElem?_eq_getElem (by omega), List.getLast_eq_getElem]
  rfl

theorem jnG_to {P : Int → Prop} {ap u : Int} {r : List (Int × Int)} (hb : ∀ y ∈ r, P y.1) (hl : ∀ y ∈ r, y.1 < y.2 ∧ y.2 ≤ u) (ha : r.Pairwise fun a b => a.2 ≤ b.1) (n : Nat) (hn : n ≤ r.length) : JnG P ap u r n (jnTo ap r n) := by
  induction n with
  | zero => exact ⟨fun y h => (by simp [jnTo] at h), fun y h => (by simp [jnTo] at h), (by simp [jnTo]), fun y h => (by simp [jnTo] at h)⟩
  | succ n ih =>
    obtain ⟨h1, h2, h3, h4⟩ := ih (by omega)
    have hm : atW r n ∈ r := by rw [← atW_eq r n (by omega)]; exact List.getElem_mem _
    have hf := hl _ hm
    have hnx : ∀ j, n + 1 ≤ j → j < r.length → (atW r n).2 ≤ (atW r j).1 := fun j hj hjl => by
      have := List.pairwise_iff_getElem.1 ha n j (by omega) hjl (by omega)
      rwa [atW_eq r n (by omega), atW_eq r j hjl] at this
    have hbm := hb _ hm
    have hpn : ∀ y ∈ jnTo ap r n, y.2 ≤ (atW r n).1 := fun y hy => h4 y hy n (Nat.le_refl _) (by omega)
    rw [show jnTo ap r (n + 1) = jnS ap (jnTo ap r n) (atW r n) from rfl]
    generalize atW r n = f at *
    generalize jnTo ap r n = out at *
    unfold jnS
    by_cases hc : out ≠ [] ∧ f.1 - (out.getD (out.length - 1) (0, 0)).2 < ap
    · rw [if_pos hc]
      obtain ⟨o2, z, e, hz⟩ := snoc_of hc.1
      subst e
      obtain ⟨za, zb⟩ := z
      rw [setE_snoc]
      obtain ⟨p1, _, p3⟩ := List.pairwise_append.1 h3
      have hz1 := h2 (za, zb) (by simp)
      have hz2 := h1 (za, zb) (by simp)
      have hz3 := hpn (za, zb) (by simp)
      refine ⟨fun y hy => ?_, fun y hy => ?_, ?_, fun y hy j hj hjl => ?_⟩
      · rcases List.mem_append.1 hy with hy | hy
        · exact h1 y (List.mem_append_left _ hy)
        · rw [List.mem_singleton.1 hy]; exact hz2
      · rcases List.mem_append.1 hy with hy | hy
        · exact h2 y (List.mem_append_left _ hy)
        · rw [List.mem_singleton.1 hy]
          simp only at hz1 hz3 ⊢
          exact ⟨by omega, hf.2⟩
      · refine List.pairwise_append.2 ⟨p1, List.pairwise_singleton _ _, fun x hx b hb => ?_⟩
        rw [List.mem_singleton.1 hb]
        exact p3 x hx (za, zb) (by simp)
      · rcases List.mem_append.1 hy with hy | hy
        · exact h4 y (List.mem_append_left _ hy) j (by omega) hjl
        · rw [List.mem_singleton.1 hy]
          exact hnx j hj hjl
    · rw [if_neg hc]
      refine ⟨fun y hy => ?_, fun y hy => ?_, ?_, fun y hy j hj hjl => ?_⟩
      · rcases List.mem_append.1 hy with hy | hy
        · exact h1 y hy
        · rw [List.mem_singleton.1 hy]; exact hbm
      · rcases List.mem_append.1 hy with hy | hy
        · exact h2 y hy
        · rw [List.mem_singleton.1 hy]; exact hf
      · refine List.pairwise_append.2 ⟨h3, List.pairwise_singleton _ _, fun x hx b hb => ?_⟩
        rw [List.mem_singleton.1 hb]
        have hx1 := hpn x hx
        refine ⟨hx1, ?_⟩
        have hne : out ≠ [] := List.ne_nil_of_mem hx
        obtain ⟨o2, z, e, hz⟩ := snoc_of hne
        have hzg : ap ≤ f.1 - z.2 := by
          rw [hz] at hc
          by_cases hh : f.1 - z.2 < ap
          · exact absurd ⟨hne, hh⟩ hc
          · omega
        subst e
        rcases List.mem_append.1 hx with hx | hx
        · have h5 := ((List.pairwise_append.1 h3).2.2 x hx z (by simp)).1
          have h6 := (h2 z (by simp)).1
          omega
        · rw [List.mem_singleton.1 hx]
          exact hzg
      · rcases List.mem_append.1 hy with hy | hy
        · exact h4 y hy j (by omega) hjl
        · rw [List.mem_singleton.1 hy]
          exact hnx j hj hjl
/-- What frames are. -/
theorem frmL_good {t : Trg} {l : List Smp} {u : Int} (hS : serErr l = 0) (hu : 0 ≤ u ∧ u ≤ 345686400000) :
    (∀ y ∈ frmL t l u, Begs t l y.1 ∧ (0 ≤ y.1 ∧ y.1 < y.2 ∧ y.2 ≤ u) ∧ t.ls ≤ y.2 - y.1) ∧ ((frmL t l u).Pairwise fun a b => a.2 ≤ b.1 ∧ t.jn ≤ b.1 - a.2) ∧ (frmL t l u).length ≤ l.length := by
  have hr := serErr_rise hS
  have hp := posF_le l u
  have hpos := fun j (hj : j < l.length) => posF_iff l u none hr j hj
  have h1 := frG_to (t := t) (u := u) hr (posF l u) hp fun j hj => by have := hpos j (by omega); omega
  have hlen := (trTo_len t u l (posF l u)).1
  unfold frmL
  simp only
  generalize (trTo t u l (posF l u)) = S at *
  have h2 := jnG_to (ap := t.jn) (P := Begs t l) (fun y hy => (h1.beg y hy).1) h1.lt h1.apart S.2.length (Nat.le_refl _)
  have hl2 := jnTo_len t.jn S.2 S.2.length
  generalize jnTo t.jn S.2 S.2.length = J at *
  refine ⟨fun y hy => ?_, h2.apart.sublist List.filter_sublist, ?_⟩
  · obtain ⟨hm, hc⟩ := List.mem_filter.1 hy
    have hb := h2.beg y hm
    have hlt := h2.lt y hm
    obtain ⟨i, hi, e, _⟩ := hb
    have h0 := (serErr_vt hS i).2.1
    rw [← e] at h0
    exact ⟨h2.beg y hm, ⟨h0, hlt⟩, by simpa using hc⟩
  · have := List.length_filter_le (fun y : Int × Int => !decide (y.2 - y.1 < t.ls)) J
    omega
/-- The value of a stepped tag where a frame begins. -/
theorem begs_value {t : Trg} {l : List Smp} {p : Int} (hS : serErr l = 0) (h : Begs t l p) : ∃ s : Pnt, valO l true p = some s ∧ s.q ≠ 2 ∧ t.st ≤ s.n ∧ 0 ≤ p ∧ p ≤ 345686399999 := by
  obtain ⟨i, hi, e, hq, hv⟩ := h
  have hr := serErr_rise hS
  have hpos : posF l (p + 1) = i + 1 := by
    have hlow : ¬ posF l (p + 1) ≤ i := fun h => by have := (posF_iff l (p + 1) none hr i hi).2 h; omega
    have hle := posF_le l (p + 1)
    rcases Nat.lt_or_ge (i + 1) l.length with h1 | h1
    · have := rise_ltA hr i (i + 1) (by omega) h1
      have := (posF_iff l (p + 1) none hr (i + 1) h1).1 (by omega)
      omega
    · omega
  have h0 := (serErr_vt hS i).2
  refine ⟨⟨(atS l i).v, 1, (atS l i).q⟩, ?_, hq, hv, by omega, by omega⟩
  unfold valO
  rw [hpos, if_neg (by omega), if_pos (.inl rfl)]
  rfl
end Go.Proofs.Ytmcojidaimeijaa

/- The contract of Odd (package logmake). -/

namespace Go.Proofs.Ytmcojidaimeijaa
open Go.RowKit
set_option linter.unusedVariables false
set_option linter.unusedSimpArgs false

set_option maxRecDepth 100000 in
set_option maxHeartbeats 1000000 in
theorem odd_went (w : World) (g : Nat) (L : List Int) (A : Option Addr) (cap k : Nat) (lo hi : Int) (hS : Strm w g L A cap k) (hk : k ≤ 900000000) (hl : -1000000000 ≤ lo) (hlh : lo ≤ hi) (hh : hi ≤ 100000000000) :
    Calls Try.prog 65 #[.pointer (some ⟨g, 0, none⟩), .int .i64 lo, .int .i64 hi] w fun e w' =>
      ∃ r : Int, e = .returned (.int .i64 r) ∧ (-1099511627776 ≤ r ∧ r ≤ 1099511627776) ∧ Went w g L A cap (k + 2) w' := by
  have hr := nxt_range L (k + 1) (hi - lo + 1) (by omega)
  go_enter Try.func65, Try.ntmps65
  go_wp2_with fail
  refine (flip_went _ g L A cap k 12 hS (by omega) (by omega)).mono ?_
  rintro e w1 ⟨rfl, hw1, hz1⟩
  by_cases hN : nxt L k 12 = 0
  · have hN' : (nxt L k 12 == 0) = true := by simpa using hN
    clear hN
    go_wp2_with fail
    refine (pick_new _ _ g L A cap (k + 1) [lo - 1, hi + 1, lo, hi, -1099511627776, 1099511627776] hw1.1 hz1.symm (by omega) (by simp)).mono ?_
    rintro e w2 ⟨rfl, hw2⟩
    have hm := pk_mem [lo - 1, hi + 1, lo, hi, -1099511627776, 1099511627776] L (k + 1) (by simp)
    simp only [List.mem_cons, List.not_mem_nil, or_false] at hm
    go_wp2_with fail
    go_ret
    exact ⟨_, rfl, by omega, hw2.1, hw1.2.trans hw2.2⟩
  · have hN' : (nxt L k 12 == 0) = false := by simpa using hN
    clear hN
    go_wp2_with fail
    refine (range_went _ g L A cap (k + 1) lo hi hw1.1 (by omega) (by omega) (by omega) (by omega)).mono ?_
    rintro e w2 ⟨rfl, hw2, _⟩
    go_wp2_with fail
    go_ret
    exact ⟨_, rfl, by omega, hw2.1, hw1.2.trans hw2.2⟩
end Go.Proofs.Ytmcojidaimeijaa
