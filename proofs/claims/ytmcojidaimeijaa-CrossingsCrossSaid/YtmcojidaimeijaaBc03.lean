import Derived.Test.YtmcojidaimeijaaRecon
import Derived.Deep.RegionHeld3
import Derived.Deep.DeepCutAuto
import Derived.RegionTactic
import Derived.WalkLawsBesides
import Derived.Test.YtmcojidaimeijaaBc02
import Derived.Test.YtmcojidaimeijaaApp
/- The contract of ValueAt (package query). -/

namespace Go.Proofs.Ytmcojidaimeijaa
open Go.RowKit
set_option linter.unusedVariables false
set_option linter.unusedSimpArgs false

/-- A point: its value and its quality. -/
structure Pnt where
  n : Int
  d : Int
  q : Int
/-- The value at a moment. -/
def valO (l : List Smp) (st : Bool) (t : Int) : Option Pnt :=
  if posF l (t + 1) = 0 then none
  else if st = true ∨ (atS l (posF l (t + 1) - 1)).t = t ∨ (atS l (posF l (t + 1) - 1)).q = 2 ∨ posF l (t + 1) = l.length ∨ (atS l (posF l (t + 1))).q = 2 then
    some ⟨(atS l (posF l (t + 1) - 1)).v, 1, (atS l (posF l (t + 1) - 1)).q⟩
  else some ⟨(lineAt (atS l (posF l (t + 1) - 1)) (atS l (posF l (t + 1))) t).1, (lineAt (atS l (posF l (t + 1) - 1)) (atS l (posF l (t + 1))) t).2, if (atS l (posF l (t + 1) - 1)).q < (atS l (posF l (t + 1))).q then (atS l (posF l (t + 1))).q else (atS l (posF l (t + 1) - 1)).q⟩
def pntV (t : Int) : Option Pnt → Value
  | none => .agg #[.int .i64 0, .int .i64 0, .int .i64 0, .int .i64 0]
  | some p => .agg #[.int .i64 t, .int .i64 p.n, .int .i64 p.d, .int .i64 p.q]

/-- What valueAt keeps. -/
structure VK (w0 : World) (v : Value) (l : List Smp) (w : World) : Prop where
  b : Blk w w0.heap.size 37 #[.int .i64 0, .int .i64 0, .int .i64 0, .int .i64 0]
  rd : RdS w 57 v l
  be : Below w0.heap.size w0 w
theorem VK.step {w0 w w' : World} {v : Value} {l : List Smp} (hb : Below w.heap.size w w') (h : VK w0 v l w) : VK w0 v l w' :=
  ⟨h.b.below hb h.b.lt, h.rd.below hb (Nat.le_refl _), h.be.trans (hb.mono h.be.size)⟩
theorem VK.start (w : World) (v : Value) (l : List Smp) (h : RdS w 57 v l) :
    VK w v l (w.alloc (.cells #[.int .i64 0, .int .i64 0, .int .i64 0, .int .i64 0] 37)) :=
  ⟨Blk.new w _ _, Rd.alloc h _, (Below.refl _ w).alloc (Nat.le_refl _) _⟩

/-- And the boxes of the sample and of the point. -/
structure VB (w0 : World) (v : Value) (l : List Smp) (t : Int) (P : Smp) (n : Nat) (w : World) : Prop where
  k : VK w0 v l w
  p : Blk w n 57 #[.int .i64 P.t, .int .i64 P.v, .int .i64 P.q]
  x : Blk w (n + 1) 37 #[.int .i64 t, .int .i64 P.v, .int .i64 1, .int .i64 P.q]
theorem VB.step {w0 w w' : World} {v : Value} {l : List Smp} {t : Int} {P : Smp} {n : Nat} (hb : Below w.heap.size w w') (h : VB w0 v l t P n w) : VB w0 v l t P n w' :=
  ⟨VK.step hb h.k, h.p.below hb h.p.lt, h.x.below hb h.x.lt⟩
theorem VB.stored {w0 w : World} {v : Value} {l : List Smp} {t : Int} {P : Smp} {n : Nat} (h : VB w0 v l t P n w) (u u' : Value) :
    RdS ((w.setCell ⟨n + 1, 1, none⟩ u).setCell ⟨n + 1, 2, none⟩ u') 57 v l ∧ Blk ((w.setCell ⟨n + 1, 1, none⟩ u).setCell ⟨n + 1, 2, none⟩ u') n 57 #[.int .i64 P.t, .int .i64 P.v, .int .i64 P.q] := by
  obtain ⟨cs, h3⟩ := h.x.setSame (i := 1) u
  exact ⟨Rd.setCell (Rd.setCell h.k.rd _ _ (h.x.no (by decide))) _ _ (h3.no (by decide)), (h.p.setOther (by simp) _).setOther (by simp) _⟩
theorem VB.drew {w0 w : World} {v : Value} {l : List Smp} {t : Int} {P : Smp} {n : Nat} (h : VB w0 v l t P n w) : VB w0 v l t P n w.drew :=
  VB.step (show Below w.heap.size w w.drew from ⟨rfl, rfl, rfl, Nat.le_refl _, fun _ _ => rfl⟩) h

theorem ptSet2 {w : World} {n : Nat} {T : TypeId} {a b c d : Value} (h : Blk w n T #[a, b, c, d]) (u u' : Value) : Blk ((w.setCell ⟨n, 1, none⟩ u).setCell ⟨n, 2, none⟩ u') n T #[a, u, u', d] := by
  unfold Blk at h ⊢
  simp [World.setCell, Array.getElem?_modify, h]
theorem ptSet3 {w : World} {n : Nat} {T : TypeId} {a b c d : Value} (h : Blk w n T #[a, b, c, d]) (u : Value) : Blk (w.setCell ⟨n, 3, none⟩ u) n T #[a, b, c, u] := by
  unfold Blk at h ⊢
  simp [World.setCell, Array.getElem?_modify, h]

set_option maxRecDepth 100000 in
set_option maxHeartbeats 4000000 in
theorem valueAt_any (v : Value) (l : List Smp) (st : Bool) (t : Int) (w : World) (hR : RdS w 57 v l) (hS : Rise none l) (hlong : l.length ≤ 5000) (hr : ∀ i, i < l.length → Right (atS l i)) (ht : 0 ≤ t ∧ t ≤ 345686400000) :
    Calls Try.prog 55 #[v, .bool st, .int .i64 t] w fun e w' => e = .returned (.tuple #[pntV t (valO l st t), .bool (valO l st t).isSome]) ∧ Below w.heap.size w w' := by
  obtain ⟨pa, ca, rfl⟩ := hR.lenv
  have hdef : valO l st t = if posF l (t + 1) = 0 then none
    else if st = true ∨ (atS l (posF l (t + 1) - 1)).t = t ∨ (atS l (posF l (t + 1) - 1)).q = 2 ∨ posF l (t + 1) = l.length ∨ (atS l (posF l (t + 1))).q = 2 then
      some ⟨(atS l (posF l (t + 1) - 1)).v, 1, (atS l (posF l (t + 1) - 1)).q⟩
    else some ⟨(lineAt (atS l (posF l (t + 1) - 1)) (atS l (posF l (t + 1))) t).1, (lineAt (atS l (posF l (t + 1) - 1)) (atS l (posF l (t + 1))) t).2, if (atS l (posF l (t + 1) - 1)).q < (atS l (posF l (t + 1))).q then (atS l (posF l (t + 1))).q else (atS l (posF l (t + 1) - 1)).q⟩ := rfl
  have hk0 := VK.start w (.slice pa l.length ca) l hR
  have hps := position_any (.slice pa l.length ca) l (t + 1) _ hk0.rd hS hlong
  have hpl := posF_le l (t + 1)
  have hpa := pos_around l (t + 1) hS
  generalize valO l st t = O at *
  generalize posF l (t + 1) = p at *
  have HDEF := Lib.hid hdef
  have HPS := Lib.hid hps
  have HK0 := Lib.hid hk0
  have HPA := Lib.hid hpa
  have HRR := Lib.hid hr
  clear hdef hps hk0 hpa hr hR hS
  go_enter Try.func55, Try.ntmps55
  go_wp2_with fail
  refine HPS.out.mono ?_
  rintro e w1 ⟨rfl, hb1⟩
  have hk := VK.step hb1 HK0.out
  clear HK0 HPS hb1
  have r0 : w1.cell? ⟨w.heap.size, 0, none⟩ = some (.int .i64 0) := hk.b.cell 0
  have r1 : w1.cell? ⟨w.heap.size, 1, none⟩ = some (.int .i64 0) := hk.b.cell 1
  have r2 : w1.cell? ⟨w.heap.size, 2, none⟩ = some (.int .i64 0) := hk.b.cell 2
  have r3 : w1.cell? ⟨w.heap.size, 3, none⟩ = some (.int .i64 0) := hk.b.cell 3
  have g0 : w1.frozen? ⟨w.heap.size, 0, none⟩ = false := hk.b.frozen 0
  have g1 : w1.frozen? ⟨w.heap.size, 1, none⟩ = false := hk.b.frozen 1
  have g2 : w1.frozen? ⟨w.heap.size, 2, none⟩ = false := hk.b.frozen 2
  have g3 : w1.frozen? ⟨w.heap.size, 3, none⟩ = false := hk.b.frozen 3
  have hz := hk.b.lt
  have hbl := hk.be
  by_cases hp0 : p = 0
  · have hO : O = none := by rw [HDEF.out, if_pos hp0]
    subst hO
    subst hp0
    go_wp2_with fail
    refine bodyPost_ret (v := .tuple #[pntV t none, .bool false]) (by simp [results, Try.results55, go_sem, r0, r1, r2, r3, pntV]) rfl ⟨rfl, ?_⟩
    exact hbl.trans (by (repeat (refine Below.setCell ?_ (by exact Nat.le_refl _) _)); exact Below.refl _ _)
  · have hp0' : ((p : Int) == 0) = false := by simp; omega
    obtain ⟨b, off, c, hv, hc1, hc2, hblt, hcell⟩ := RdS.at_ hk.rd (by omega)
    cases hv
    unfold maxLen at hc2
    obtain ⟨c0, c1, c2⟩ := hcell (p - 1) (by omega)
    have j1 : (0 : Int) ≤ (p : Int) - 1 := by omega
    have j2 : (p : Int) - 1 < (l.length : Int) := by omega
    have j3 : ((p : Int) - 1).toNat = p - 1 := by omega
    have hz1 : w.heap.size < w1.heap.size + 1 := by omega
    have hkb : VB w (.slice (some ⟨b, off, none⟩) l.length ca) l t (atS l (p - 1)) w1.heap.size ((w1.alloc (.cells #[.int .i64 (atS l (p - 1)).t, .int .i64 (atS l (p - 1)).v, .int .i64 (atS l (p - 1)).q] 57)).alloc (.cells #[.int .i64 t, .int .i64 (atS l (p - 1)).v, .int .i64 1, .int .i64 (atS l (p - 1)).q] 37)) :=
      ⟨VK.step ((Below.refl _ _).alloc (Nat.le_refl _) _) (VK.step ((Below.refl _ _).alloc (Nat.le_refl _) _) hk), (Blk.new _ _ _).alloc _, Blk.new1 _ _ _ _⟩
    have i1 : (0 : Int) ≤ (p : Int) := by omega
    have hO1 := HDEF.out
    rw [if_neg hp0] at hO1
    have HP := Lib.hid (show atS l (p - 1) = atS l (p - 1) from rfl)
    have HO1 := Lib.hid hO1
    have hrp := HRR.out (p - 1) (by omega)
    have hrx := fun h : p < l.length => HRR.out p h
    have hlp := HPA.out.1 (p - 1) (by omega) (by omega)
    have hlx := HPA.out.2
    clear hO1 HDEF HRR HPA r0 r1 r2 r3 g0 g1 g2 g3 hcell hk
    generalize hPe : atS l (p - 1) = P at *
    generalize hXe : atS l p = X at *
    have HPE := Lib.hid hPe
    have HXE := Lib.hid hXe
    clear hPe hXe HP
    go_upto_region 6 with fail
    generalize (w1.alloc (.cells #[.int .i64 P.t, .int .i64 P.v, .int .i64 P.q] 57)).alloc (.cells #[.int .i64 t, .int .i64 P.v, .int .i64 1, .int .i64 P.q] 37) = W2 at *
    have hne : ¬ w1.heap.size = w.heap.size := by omega
    have hne2 : ¬ w1.heap.size + 1 = w.heap.size := by omega
    clear c0 c1 c2 hbl hblt hz1
    generalize w1.heap.size = n at *
    have r0 : W2.cell? ⟨w.heap.size, 0, none⟩ = some (.int .i64 0) := hkb.k.b.cell 0
    have r1 : W2.cell? ⟨w.heap.size, 1, none⟩ = some (.int .i64 0) := hkb.k.b.cell 1
    have r2 : W2.cell? ⟨w.heap.size, 2, none⟩ = some (.int .i64 0) := hkb.k.b.cell 2
    have r3 : W2.cell? ⟨w.heap.size, 3, none⟩ = some (.int .i64 0) := hkb.k.b.cell 3
    have g0 : W2.frozen? ⟨w.heap.size, 0, none⟩ = false := hkb.k.b.frozen 0
    have g1 : W2.frozen? ⟨w.heap.size, 1, none⟩ = false := hkb.k.b.frozen 1
    have g2 : W2.frozen? ⟨w.heap.size, 2, none⟩ = false := hkb.k.b.frozen 2
    have g3 : W2.frozen? ⟨w.heap.size, 3, none⟩ = false := hkb.k.b.frozen 3
    have p0 : W2.cell? ⟨n, 0, none⟩ = some (.int .i64 P.t) := hkb.p.cell 0
    have p1 : W2.cell? ⟨n, 1, none⟩ = some (.int .i64 P.v) := hkb.p.cell 1
    have p2 : W2.cell? ⟨n, 2, none⟩ = some (.int .i64 P.q) := hkb.p.cell 2
    have x0 : W2.cell? ⟨n + 1, 0, none⟩ = some (.int .i64 t) := hkb.x.cell 0
    have x1 : W2.cell? ⟨n + 1, 1, none⟩ = some (.int .i64 P.v) := hkb.x.cell 1
    have x2 : W2.cell? ⟨n + 1, 2, none⟩ = some (.int .i64 1) := hkb.x.cell 2
    have x3 : W2.cell? ⟨n + 1, 3, none⟩ = some (.int .i64 P.q) := hkb.x.cell 3
    have hbe := hkb.k.be
    by_cases hs : st = true ∨ P.t = t ∨ P.q = 2 ∨ p = l.length ∨ X.q = 2
    · have HO := Lib.hid (show O = some ⟨P.v, 1, P.q⟩ by rw [HO1.out, if_pos hs])
      have HS := Lib.hid hs
      clear hs hrx hlx hrp hlp HO1
      cases st
      · by_cases ht1 : P.t = t
        · have ht1' : (P.t == t) = true := by simpa using ht1
          clear ht1 hkb
          go_wp2_with fail
          refine bodyPost_ret (v := .tuple #[pntV t (some ⟨P.v, 1, P.q⟩), .bool true]) (by simp [results, Try.results55, go_sem, r0, r1, r2, r3, pntV]) rfl ⟨by rw [HO.out]; rfl, ?_⟩
          exact hbe.trans (by (repeat (refine Below.setCell ?_ (by exact Nat.le_refl _) _)); exact Below.refl _ _)
        · have ht1' : (P.t == t) = false := by simpa using ht1
          by_cases hq1 : P.q = 2
          · have hq1' : (P.q == 2) = true := by simpa using hq1
            clear ht1 hq1 hkb
            go_wp2_with fail
            refine bodyPost_ret (v := .tuple #[pntV t (some ⟨P.v, 1, P.q⟩), .bool true]) (by simp [results, Try.results55, go_sem, r0, r1, r2, r3, pntV]) rfl ⟨by rw [HO.out]; rfl, ?_⟩
            exact hbe.trans (by (repeat (refine Below.setCell ?_ (by exact Nat.le_refl _) _)); exact Below.refl _ _)
          · have hq1' : (P.q == 2) = false := by simpa using hq1
            by_cases hpn : p = l.length
            · have hpn' : ((p : Int) == (l.length : Int)) = true := by simp; omega
              clear ht1 hq1 hpn hkb
              go_wp2_with fail
              refine bodyPost_ret (v := .tuple #[pntV t (some ⟨P.v, 1, P.q⟩), .bool true]) (by simp [results, Try.results55, go_sem, r0, r1, r2, r3, pntV]) rfl ⟨by rw [HO.out]; rfl, ?_⟩
              exact hbe.trans (by (repeat (refine Below.setCell ?_ (by exact Nat.le_refl _) _)); exact Below.refl _ _)
            · have hpn' : ((p : Int) == (l.length : Int)) = false := by simp; omega
              have hxq : X.q = 2 := by
                rcases HS.out with h | h | h | h | h
                · cases h
                · exact absurd h ht1
                · exact absurd h hq1
                · exact absurd h hpn
                · exact h
              have hxq' : (X.q == 2) = true := by simpa using hxq
              have hplt : (p : Int) < (l.length : Int) := by omega
              have n2 : W2.cell? ⟨b, off + p * 3 + 2, none⟩ = some (.int .i64 X.q) := by rw [← HXE.out]; exact (hkb.k.rd.atv p (by omega)).2.2.1
              clear ht1 hq1 hpn hkb hxq
              go_wp2_with fail
              refine bodyPost_ret (v := .tuple #[pntV t (some ⟨P.v, 1, P.q⟩), .bool true]) (by simp [results, Try.results55, go_sem, r0, r1, r2, r3, pntV]) rfl ⟨by rw [HO.out]; rfl, ?_⟩
              exact hbe.trans (by (repeat (refine Below.setCell ?_ (by exact Nat.le_refl _) _)); exact Below.refl _ _)
      · clear hkb
        go_wp2_with fail
        refine bodyPost_ret (v := .tuple #[pntV t (some ⟨P.v, 1, P.q⟩), .bool true]) (by simp [results, Try.results55, go_sem, r0, r1, r2, r3, pntV]) rfl ⟨by rw [HO.out]; rfl, ?_⟩
        exact hbe.trans (by (repeat (refine Below.setCell ?_ (by exact Nat.le_refl _) _)); exact Below.refl _ _)
    · have hst : st = false := by cases st; · rfl
                                  · exact absurd (.inl rfl) hs
      have ht1' : (P.t == t) = false := by simpa using fun h => hs (.inr (.inl h))
      have hq1' : (P.q == 2) = false := by simpa using fun h => hs (.inr (.inr (.inl h)))
      have hpn : ¬ p = l.length := fun h => hs (.inr (.inr (.inr (.inl h))))
      have hpn' : ((p : Int) == (l.length : Int)) = false := by simp; omega
      have hxq' : (X.q == 2) = false := by simpa using fun h => hs (.inr (.inr (.inr (.inr h))))
      have hplt : (p : Int) < (l.length : Int) := by omega
      have HO := Lib.hid (show O = some ⟨(lineAt P X t).1, (lineAt P X t).2, if P.q < X.q then X.q else P.q⟩ by rw [HO1.out, if_neg hs])
      have hon := fun w => onLine_any P X t w hrp (hrx (by omega)) (by have := hlx (by omega); omega) (by have := hlx (by omega); omega)
      have hat : ∀ w', RdS w' 57 (.slice (some ⟨b, off, none⟩) l.length ca) l → Blk w' n 57 #[.int .i64 P.t, .int .i64 P.v, .int .i64 P.q] → w'.cell? ⟨b, off + p * 3, none⟩ = some (.int .i64 X.t) ∧ w'.cell? ⟨b, off + p * 3 + 1, none⟩ = some (.int .i64 X.v) ∧ w'.cell? ⟨b, off + p * 3 + 2, none⟩ = some (.int .i64 X.q) ∧ w'.cell? ⟨n, 0, none⟩ = some (.int .i64 P.t) ∧ w'.cell? ⟨n, 1, none⟩ = some (.int .i64 P.v) ∧ w'.cell? ⟨n, 2, none⟩ = some (.int .i64 P.q) := fun w' h hp => by
        have h1 := h.atv p (by omega)
        rw [HXE.out] at h1
        exact ⟨h1.1, h1.2.1, h1.2.2.1, hp.cell 0, hp.cell 1, hp.cell 2⟩
      have HAT := Lib.hid hat
      have HON := Lib.hid hon
      generalize lineAt P X t = V at *
      subst hst
      obtain ⟨n0, n1, n2, _⟩ := hat _ hkb.k.rd hkb.p
      clear hs HO1 hrp hrx hlp hlx hpn hat hon
      go_upto_region 8 with fail
      go_region_held3 (fun w' => w'.cell? ⟨b, off + p * 3, none⟩ = some (.int .i64 X.t) ∧ w'.cell? ⟨b, off + p * 3 + 1, none⟩ = some (.int .i64 X.v) ∧ w'.cell? ⟨b, off + p * 3 + 2, none⟩ = some (.int .i64 X.q) ∧ w'.cell? ⟨n, 0, none⟩ = some (.int .i64 P.t) ∧ w'.cell? ⟨n, 1, none⟩ = some (.int .i64 P.v) ∧ w'.cell? ⟨n, 2, none⟩ = some (.int .i64 P.q))
        (first | exact HAT.out _ hkk.k.rd hkk.p | exact HAT.out _ hkb.k.rd hkb.p | exact HAT.out _ (hkk.stored _ _).1 (hkk.stored _ _).2 | go_keep)
        (first | (go_at_call 101; refine (HON.out _).mono ?_; rintro e wk ⟨rfl, hbk⟩; have hkk := VB.step hbk (by first | assumption | exact VB.drew (by assumption)); have t0 : wk.frozen? ⟨n + 1, 1, none⟩ = false := hkk.x.frozen 1; have t1 : wk.frozen? ⟨n + 1, 2, none⟩ = false := hkk.x.frozen 2; have t2 : wk.cell? ⟨n + 1, 1, none⟩ = some (.int .i64 P.v) := hkk.x.cell 1; have t3 : wk.cell? ⟨n + 1, 2, none⟩ = some (.int .i64 1) := hkk.x.cell 2; clear hbk))
      go_upto_region 9 with fail
      have hbk := hkk.k.be
      have hsr := hkk.stored (.int .i64 V.1) (.int .i64 V.2)
      have hx3 : Blk ((wk.setCell ⟨n + 1, 1, none⟩ (.int .i64 V.1)).setCell ⟨n + 1, 2, none⟩ (.int .i64 V.2)) (n + 1) 37 #[.int .i64 t, .int .i64 V.1, .int .i64 V.2, .int .i64 P.q] := ptSet2 hkk.x _ _
      have hb3 : Blk ((wk.setCell ⟨n + 1, 1, none⟩ (.int .i64 V.1)).setCell ⟨n + 1, 2, none⟩ (.int .i64 V.2)) w.heap.size 37 #[.int .i64 0, .int .i64 0, .int .i64 0, .int .i64 0] := (hkk.k.b.setOther (by simp; omega) _).setOther (by simp; omega) _
      have hbe3 : Below w.heap.size w ((wk.setCell ⟨n + 1, 1, none⟩ (.int .i64 V.1)).setCell ⟨n + 1, 2, none⟩ (.int .i64 V.2)) := (hbk.setCell (by simp; omega) _).setCell (by simp; omega) _
      obtain ⟨m0, m1, m2, q0, q1, q2⟩ := HAT.out _ hsr.1 hsr.2
      clear hkk t0 t1 t2 t3 hbk hsr
      generalize (wk.setCell ⟨n + 1, 1, none⟩ (.int .i64 V.1)).setCell ⟨n + 1, 2, none⟩ (.int .i64 V.2) = w5 at *
      have f3 : w5.frozen? ⟨n + 1, 3, none⟩ = false := hx3.frozen 3
      have y0 : w5.cell? ⟨n + 1, 0, none⟩ = some (.int .i64 t) := hx3.cell 0
      have y1 : w5.cell? ⟨n + 1, 1, none⟩ = some (.int .i64 V.1) := hx3.cell 1
      have y2 : w5.cell? ⟨n + 1, 2, none⟩ = some (.int .i64 V.2) := hx3.cell 2
      have y3 : w5.cell? ⟨n + 1, 3, none⟩ = some (.int .i64 P.q) := hx3.cell 3
      clear r0 r1 r2 r3 g0 g1 g2 g3 p0 p1 p2 x0 x1 x2 x3 hbe n0 n1 n2
      go_region
      clear y0 y1 y2 y3 f3
      generalize hQ : (if P.q < X.q then X.q else P.q) = Q at *
      have HQ := Lib.hid hQ
      clear hQ
      have hx4 : Blk (w5.setCell ⟨n + 1, 3, none⟩ (.int .i64 Q)).drew (n + 1) 37 #[.int .i64 t, .int .i64 V.1, .int .i64 V.2, .int .i64 Q] := ptSet3 hx3 _
      have hb4 : Blk (w5.setCell ⟨n + 1, 3, none⟩ (.int .i64 Q)).drew w.heap.size 37 #[.int .i64 0, .int .i64 0, .int .i64 0, .int .i64 0] := hb3.setOther (by simp; omega) _
      have hbe4 : Below w.heap.size w (w5.setCell ⟨n + 1, 3, none⟩ (.int .i64 Q)).drew := (hbe3.setCell (by simp; omega) _).drew
      generalize (w5.setCell ⟨n + 1, 3, none⟩ (.int .i64 Q)).drew = w6 at *
      have y0 : w6.cell? ⟨n + 1, 0, none⟩ = some (.int .i64 t) := hx4.cell 0
      have y1 : w6.cell? ⟨n + 1, 1, none⟩ = some (.int .i64 V.1) := hx4.cell 1
      have y2 : w6.cell? ⟨n + 1, 2, none⟩ = some (.int .i64 V.2) := hx4.cell 2
      have y3 : w6.cell? ⟨n + 1, 3, none⟩ = some (.int .i64 Q) := hx4.cell 3
      have r0 : w6.cell? ⟨w.heap.size, 0, none⟩ = some (.int .i64 0) := hb4.cell 0
      have r1 : w6.cell? ⟨w.heap.size, 1, none⟩ = some (.int .i64 0) := hb4.cell 1
      have r2 : w6.cell? ⟨w.heap.size, 2, none⟩ = some (.int .i64 0) := hb4.cell 2
      have r3 : w6.cell? ⟨w.heap.size, 3, none⟩ = some (.int .i64 0) := hb4.cell 3
      have g0 : w6.frozen? ⟨w.heap.size, 0, none⟩ = false := hb4.frozen 0
      have g1 : w6.frozen? ⟨w.heap.size, 1, none⟩ = false := hb4.frozen 1
      have g2 : w6.frozen? ⟨w.heap.size, 2, none⟩ = false := hb4.frozen 2
      have g3 : w6.frozen? ⟨w.heap.size, 3, none⟩ = false := hb4.frozen 3
      go_wp2_with fail
      refine bodyPost_ret (v := .tuple #[pntV t (some ⟨V.1, V.2, Q⟩), .bool true]) (by simp [results, Try.results55, go_sem, r0, r1, r2, r3, pntV]) rfl ⟨by rw [HO.out]; rfl, ?_⟩
      exact hbe4.trans (by (repeat (refine Below.setCell ?_ (by exact Nat.le_refl _) _)); exact Below.refl _ _)

theorem pntV_agg (t : Int) (O : Option Pnt) : ∃ a b c d : Int, pntV t O = .agg #[.int .i64 a, .int .i64 b, .int .i64 c, .int .i64 d] := by
  cases O with
  | none => exact ⟨0, 0, 0, 0, rfl⟩
  | some p => exact ⟨t, p.n, p.d, p.q, rfl⟩
def vatE (l : List Smp) (t : Int) : Int := if serErr l ≠ 0 then serErr l else if inB t 0 345686399999 = false then 1 else 0
def vatO (l : List Smp) (st : Bool) (t : Int) : Option Pnt := if vatE l t = 0 then valO l st t else none

set_option maxRecDepth 100000 in
set_option maxHeartbeats 4000000 in
theorem publicValueAt_any (v : Value) (l : List Smp) (st : Bool) (t : Int) (w : World) (hR : RdS w 57 v l) :
    Calls Try.prog 16 #[v, .bool st, .int .i64 t] w fun e w' => e = .returned (.tuple #[pntV t (vatO l st t), .bool (vatO l st t).isSome, .int .i64 (vatE l t)]) ∧ Below w.heap.size w w' := by
  have hE : vatE l t = if serErr l ≠ 0 then serErr l else if inB t 0 345686399999 = false then 1 else 0 := rfl
  have hO : vatO l st t = if vatE l t = 0 then valO l st t else none := rfl
  generalize vatO l st t = O at *
  generalize vatE l t = E at *
  have HE := Lib.hid hE
  have HO := Lib.hid hO
  have hk0 := VK.start w v l hR
  have HK0 := Lib.hid hk0
  clear hE hO hR hk0
  go_enter Try.func16, Try.ntmps16
  go_wp2_with fail
  refine (checkSeries_any v l _ HK0.out.rd).mono ?_
  rintro e w1 ⟨rfl, hb1⟩
  have hk := VK.step hb1 HK0.out
  clear HK0 hb1
  have r0 : w1.cell? ⟨w.heap.size, 0, none⟩ = some (.int .i64 0) := hk.b.cell 0
  have r1 : w1.cell? ⟨w.heap.size, 1, none⟩ = some (.int .i64 0) := hk.b.cell 1
  have r2 : w1.cell? ⟨w.heap.size, 2, none⟩ = some (.int .i64 0) := hk.b.cell 2
  have r3 : w1.cell? ⟨w.heap.size, 3, none⟩ = some (.int .i64 0) := hk.b.cell 3
  have g0 : w1.frozen? ⟨w.heap.size, 0, none⟩ = false := hk.b.frozen 0
  have g1 : w1.frozen? ⟨w.heap.size, 1, none⟩ = false := hk.b.frozen 1
  have g2 : w1.frozen? ⟨w.heap.size, 2, none⟩ = false := hk.b.frozen 2
  have g3 : w1.frozen? ⟨w.heap.size, 3, none⟩ = false := hk.b.frozen 3
  have hz := hk.b.lt
  have hbl := hk.be
  by_cases hS : serErr l = 0
  · have hS' : (serErr l != 0) = false := by simpa using hS
    have HS := Lib.hid hS
    clear hS
    go_wp2_with fail
    refine (moment_any t _).mono ?_
    rintro e w2 ⟨rfl, rfl⟩
    cases hT : inB t 0 345686399999
    · have hE1 : E = 1 := by rw [HE.out, if_neg (by rw [HS.out]; simp), if_pos hT]
      have HE1 := Lib.hid hE1
      clear hT hE1
      go_wp2_with fail
      refine bodyPost_ret (v := .tuple #[pntV t none, .bool false, .int .i64 1]) (by simp [results, Try.results16, go_sem, r0, r1, r2, r3, pntV]) rfl ⟨by rw [HO.out, if_neg (by rw [HE1.out]; omega), HE1.out]; rfl, ?_⟩
      exact hbl.trans (by (repeat (refine Below.setCell ?_ (by exact Nat.le_refl _) _)); exact Below.refl _ _)
    · have hE1 : E = 0 := by rw [HE.out, if_neg (by rw [HS.out]; simp), if_neg (by rw [hT]; simp)]
      have HE1 := Lib.hid hE1
      have hO1 : O = valO l st t := by rw [HO.out, if_pos hE1]
      have HO1 := Lib.hid hO1
      have hTT := inB_true.1 hT
      have hva := valueAt_any v l st t w1 hk.rd (serErr_rise HS.out) (serErr_good HS.out).1 (fun i _ => ⟨(serErr_vt HS.out i).2, (serErr_vt HS.out i).1⟩) (by omega)
      rw [← hO1] at hva
      obtain ⟨a, b', c, d, hp⟩ := pntV_agg t O
      rw [hp] at hva
      have HP := Lib.hid hp
      have HVA := Lib.hid hva
      clear hT hE1 hO1 hp hva
      go_wp2_with fail
      refine HVA.out.mono ?_
      rintro e w3 ⟨rfl, hb3⟩
      have hk3 := VK.step hb3 hk
      have hz3 := hk3.b.lt
      have hb4 : Blk (w3.alloc (.cells #[.int .i64 a, .int .i64 b', .int .i64 c, .int .i64 d] 37)) w.heap.size 37 #[.int .i64 0, .int .i64 0, .int .i64 0, .int .i64 0] := hk3.b.alloc _
      have hx4 := Blk.new w3 37 #[.int .i64 a, .int .i64 b', .int .i64 c, .int .i64 d]
      have hbe4 := hk3.be.alloc hk3.be.size (.cells #[.int .i64 a, .int .i64 b', .int .i64 c, .int .i64 d] 37)
      clear hb3 r0 r1 r2 r3 g0 g1 g2 g3 hk hbl hk3
      go_upto_region 7 with fail
      have hne : ¬ w3.heap.size = w.heap.size := by omega
      generalize w3.alloc (.cells #[.int .i64 a, .int .i64 b', .int .i64 c, .int .i64 d] 37) = w6 at *
      generalize w3.heap.size = n at *
      have y0 : w6.cell? ⟨n, 0, none⟩ = some (.int .i64 a) := hx4.cell 0
      have y1 : w6.cell? ⟨n, 1, none⟩ = some (.int .i64 b') := hx4.cell 1
      have y2 : w6.cell? ⟨n, 2, none⟩ = some (.int .i64 c) := hx4.cell 2
      have y3 : w6.cell? ⟨n, 3, none⟩ = some (.int .i64 d) := hx4.cell 3
      have r0 : w6.cell? ⟨w.heap.size, 0, none⟩ = some (.int .i64 0) := hb4.cell 0
      have r1 : w6.cell? ⟨w.heap.size, 1, none⟩ = some (.int .i64 0) := hb4.cell 1
      have r2 : w6.cell? ⟨w.heap.size, 2, none⟩ = some (.int .i64 0) := hb4.cell 2
      have r3 : w6.cell? ⟨w.heap.size, 3, none⟩ = some (.int .i64 0) := hb4.cell 3
      have g0 : w6.frozen? ⟨w.heap.size, 0, none⟩ = false := hb4.frozen 0
      have g1 : w6.frozen? ⟨w.heap.size, 1, none⟩ = false := hb4.frozen 1
      have g2 : w6.frozen? ⟨w.heap.size, 2, none⟩ = false := hb4.frozen 2
      have g3 : w6.frozen? ⟨w.heap.size, 3, none⟩ = false := hb4.frozen 3
      go_wp2_with fail
      refine bodyPost_ret (v := .tuple #[.agg #[.int .i64 a, .int .i64 b', .int .i64 c, .int .i64 d], .bool O.isSome, .int .i64 0]) (by simp [results, Try.results16, go_sem, r0, r1, r2, r3]) rfl ⟨by rw [HP.out, HE1.out], ?_⟩
      exact hbe4.trans (by (repeat (refine Below.setCell ?_ (by exact Nat.le_refl _) _)); exact Below.refl _ _)
  · have hS' : (serErr l != 0) = true := by simpa using hS
    have hE1 : E = serErr l := by rw [HE.out, if_pos hS]
    have HS := Lib.hid hS
    have HE1 := Lib.hid hE1
    clear hS hE1
    go_wp2_with fail
    refine bodyPost_ret (v := .tuple #[pntV t none, .bool false, .int .i64 (serErr l)]) (by simp [results, Try.results16, go_sem, r0, r1, r2, r3, pntV]) rfl ⟨by rw [HO.out, if_neg (by rw [HE1.out]; exact HS.out), HE1.out]; rfl, ?_⟩
    exact hbl.trans (by (repeat (refine Below.setCell ?_ (by exact Nat.le_refl _) _)); exact Below.refl _ _)
end Go.Proofs.Ytmcojidaimeijaa

/- Mathematics: crossings rise; at a whole moment of crossing the value is the limit. -/

namespace Go.Proofs.Ytmcojidaimeijaa
open Go.RowKit
set_option linter.unusedVariables false
set_option linter.unusedSimpArgs false

theorem fracOf_mul {n d : Int} (hd : 0 < d) : ∃ g : Int, 0 < g ∧ (fracOf n d).1 * g = n ∧ (fracOf n d).2 * g = d := by
  obtain ⟨hg, _, _⟩ := frac_parts n d hd
  exact ⟨_, hg, Int.ediv_mul_cancel (Int.gcd_dvd_left ..), Int.ediv_mul_cancel (Int.gcd_dvd_right ..)⟩
theorem fracOf_above {n d t : Int} (hd : 0 < d) (h : t * d < n) : t * (fracOf n d).2 < (fracOf n d).1 := by
  obtain ⟨g, hg, h1, h2⟩ := fracOf_mul (n := n) hd
  refine Int.lt_of_not_ge fun hh => ?_
  have h3 := Int.mul_le_mul_of_nonneg_right hh (Int.le_of_lt hg)
  rw [h1, Int.mul_assoc, h2] at h3
  omega
theorem fracOf_below {n d t : Int} (hd : 0 < d) (h : n < t * d) : (fracOf n d).1 < t * (fracOf n d).2 := by
  obtain ⟨g, hg, h1, h2⟩ := fracOf_mul (n := n) hd
  refine Int.lt_of_not_ge fun hh => ?_
  have h3 := Int.mul_le_mul_of_nonneg_right hh (Int.le_of_lt hg)
  rw [h1, Int.mul_assoc, h2] at h3
  omega
theorem fracOf_one {a d : Int} (hd : 0 < d) : fracOf (a * d) d = (a, 1) := by
  unfold fracOf
  rw [Int.gcd_mul_left_left, Int.natAbs_of_nonneg (Int.le_of_lt hd), Int.mul_ediv_cancel _ (by omega), Int.ediv_self (by omega)]
theorem line_limit {av bv at_ bt L T D E : Int} (e : T * D = at_ * D + E * (bt - at_)) (h : (D = bv - av ∧ E = L - av) ∨ (D = av - bv ∧ E = av - L)) : av * (bt - at_) + (bv - av) * (T - at_) = L * (bt - at_) := by
  rcases h with ⟨rfl, rfl⟩ | ⟨rfl, rfl⟩
  · simp only [Int.mul_sub, Int.sub_mul] at e ⊢
    rw [Int.mul_comm bv T, Int.mul_comm av T, Int.mul_comm bv at_, Int.mul_comm av at_]
    rw [Int.mul_comm av at_] at e
    omega
  · simp only [Int.mul_sub, Int.sub_mul] at e ⊢
    rw [Int.mul_comm bv T, Int.mul_comm av T, Int.mul_comm bv at_, Int.mul_comm av at_]
    rw [Int.mul_comm av at_] at e
    omega

/-- A crossing between the samples j and m. -/
def CrP (L : Int) (l : List Smp) (j m : Nat) (x : Int × Int) : Prop :=
  (1 ≤ x.2 ∧ x.2 ≤ 2000000) ∧ (atS l j).t * x.2 < x.1 ∧ x.1 < (atS l m).t * x.2 ∧ (x.2 = 1 → ∃ q, q ≠ 2 ∧ valO l false x.1 = some ⟨L, 1, q⟩)
theorem cross_one {L : Int} {l : List Smp} {j m : Nat} (hS : serErr l = 0) (hm : m < l.length) (hl : lastF L l m = some j) (hc : crC L l j m = true) : CrP L l j m (crT L l j m) := by
  obtain ⟨hjm, hjq, hjv, heq⟩ := lastF_some hl
  have hrise := serErr_rise hS
  have htt := rise_ltA hrise j m hjm hm
  have hvj := (serErr_vt hS j).1
  have hvm := (serErr_vt hS m).1
  unfold crC at hc
  simp only [Bool.and_eq_true, decide_eq_true_eq] at hc
  obtain ⟨⟨⟨_, _⟩, hmq⟩, h4⟩ := hc
  unfold opp at h4
  simp only [Bool.or_eq_true, Bool.and_eq_true, decide_eq_true_eq] at h4
  by_cases hk : m = j + 1
  · subst hk
    have hT : crT L l j (j + 1) = fracOf ((atS l j).t * dif (atS l j).v (atS l (j + 1)).v + dif (atS l j).v L * ((atS l (j + 1)).t - (atS l j).t)) (dif (atS l j).v (atS l (j + 1)).v) := by unfold crT; rw [if_pos rfl]
    have hdd : (dif (atS l j).v (atS l (j + 1)).v = (atS l (j + 1)).v - (atS l j).v ∧ dif (atS l j).v L = L - (atS l j).v) ∨ (dif (atS l j).v (atS l (j + 1)).v = (atS l j).v - (atS l (j + 1)).v ∧ dif (atS l j).v L = (atS l j).v - L) := by
      unfold dif
      rcases h4 with h4 | h4
      · left; rw [if_neg (by omega), if_neg (by omega)]; exact ⟨rfl, rfl⟩
      · right; rw [if_pos (by omega), if_pos (by omega)]; exact ⟨rfl, rfl⟩
    have hd : (0 < dif (atS l j).v (atS l (j + 1)).v ∧ dif (atS l j).v (atS l (j + 1)).v ≤ 2000000) ∧ 0 < dif (atS l j).v L ∧ dif (atS l j).v L < dif (atS l j).v (atS l (j + 1)).v := by
      unfold dif
      rcases h4 with h4 | h4
      · rw [if_neg (by omega), if_neg (by omega)]; omega
      · rw [if_pos (by omega), if_pos (by omega)]; omega
    have hp1 := posF_iff l ((crT L l j (j + 1)).1 + 1) none hrise j (by omega)
    have hp2 := posF_iff l ((crT L l j (j + 1)).1 + 1) none hrise (j + 1) hm
    have hval : valO l false (crT L l j (j + 1)).1 = if posF l ((crT L l j (j + 1)).1 + 1) = 0 then none
        else if false = true ∨ (atS l (posF l ((crT L l j (j + 1)).1 + 1) - 1)).t = (crT L l j (j + 1)).1 ∨ (atS l (posF l ((crT L l j (j + 1)).1 + 1) - 1)).q = 2 ∨ posF l ((crT L l j (j + 1)).1 + 1) = l.length ∨ (atS l (posF l ((crT L l j (j + 1)).1 + 1))).q = 2 then
          some ⟨(atS l (posF l ((crT L l j (j + 1)).1 + 1) - 1)).v, 1, (atS l (posF l ((crT L l j (j + 1)).1 + 1) - 1)).q⟩
        else some ⟨(lineAt (atS l (posF l ((crT L l j (j + 1)).1 + 1) - 1)) (atS l (posF l ((crT L l j (j + 1)).1 + 1))) (crT L l j (j + 1)).1).1, (lineAt (atS l (posF l ((crT L l j (j + 1)).1 + 1) - 1)) (atS l (posF l ((crT L l j (j + 1)).1 + 1))) (crT L l j (j + 1)).1).2, if (atS l (posF l ((crT L l j (j + 1)).1 + 1) - 1)).q < (atS l (posF l ((crT L l j (j + 1)).1 + 1))).q then (atS l (posF l ((crT L l j (j + 1)).1 + 1))).q else (atS l (posF l ((crT L l j (j + 1)).1 + 1) - 1)).q⟩ := rfl
    unfold CrP
    generalize crT L l j (j + 1) = x at *
    generalize hP : posF l (x.1 + 1) = p at *
    generalize hA : atS l j = a at *
    generalize hB : atS l (j + 1) = b at *
    have hdt : 0 < b.t - a.t := by omega
    generalize dif a.v b.v = D at *
    generalize dif a.v L = E at *
    have hpd : 0 < E * (b.t - a.t) := Int.mul_pos hd.2.1 hdt
    have hpl : E * (b.t - a.t) < D * (b.t - a.t) := Int.mul_lt_mul_of_pos_right hd.2.2 hdt
    have hexp : b.t * D = a.t * D + D * (b.t - a.t) := by rw [Int.mul_sub, Int.mul_comm b.t D, Int.mul_comm a.t D]; omega
    have hgt := fracOf_above (n := a.t * D + E * (b.t - a.t)) (t := a.t) hd.1.1 (by omega)
    have hlt := fracOf_below (n := a.t * D + E * (b.t - a.t)) (t := b.t) hd.1.1 (by omega)
    have hbd := (fracOf_bound (n := a.t * D + E * (b.t - a.t)) hd.1.1).2
    obtain ⟨g, hg, e1, e2⟩ := fracOf_mul (n := a.t * D + E * (b.t - a.t)) hd.1.1
    rw [← hT] at hgt hlt hbd e1 e2
    refine ⟨by omega, hgt, hlt, fun h1 => ?_⟩
    rw [h1, Int.one_mul] at e2
    rw [h1, Int.mul_one] at hgt hlt
    rw [e2] at e1
    have hp : p = j + 1 := by omega
    subst hp
    rw [Nat.add_sub_cancel, hA, hB, if_neg (by omega), if_neg (by
      rintro (h | h | h | h | h)
      · cases h
      · omega
      · exact hjq h
      · omega
      · exact hmq h)] at hval
    have hline : lineAt a b x.1 = (L, 1) := by
      unfold lineAt
      rw [line_limit e1 hdd]
      exact fracOf_one hdt
    rw [hline] at hval
    refine ⟨_, ?_, hval⟩
    split <;> assumption
  · have hT : crT L l j m = ((atS l (j + 1)).t, 1) := by unfold crT; rw [if_neg hk]
    have t1 := rise_ltA hrise j (j + 1) (by omega) (by omega)
    have t2 := rise_ltA hrise (j + 1) m (by omega) hm
    have t3 := rise_ltA hrise (j + 1) (j + 2) (by omega) (by omega)
    have hq := heq (j + 1) (by omega) (by omega)
    unfold eqL at hq
    simp only [Bool.and_eq_true, decide_eq_true_eq] at hq
    have hp1 := posF_iff l ((atS l (j + 1)).t + 1) none hrise (j + 1) (by omega)
    have hp2 := posF_iff l ((atS l (j + 1)).t + 1) none hrise (j + 2) (by omega)
    have hp : posF l ((atS l (j + 1)).t + 1) = j + 2 := by omega
    rw [hT]
    refine ⟨⟨by simp, by simp⟩, by simpa using t1, by simpa using t2, fun _ => ⟨(atS l (j + 1)).q, hq.2, ?_⟩⟩
    show valO l false (atS l (j + 1)).t = _
    unfold valO
    rw [hp, if_neg (by omega), show j + 2 - 1 = j + 1 from rfl, if_pos (Or.inr (Or.inl rfl)), hq.1]
theorem newF_mem {L f t : Int} {l : List Smp} {m : Nat} {x : Int × Int} (h : x ∈ newF L f t l m) : ∃ j, lastF L l m = some j ∧ crC L l j m = true ∧ insB f t x = true ∧ x = crT L l j m := by
  unfold newF at h
  cases hl : lastF L l m with
  | none => rw [hl] at h; cases h
  | some j =>
    rw [hl] at h
    simp only [crs] at h
    split at h
    · rename_i h1
      simp only [List.mem_singleton] at h
      subst h
      exact ⟨j, rfl, h1.1, h1.2, rfl⟩
    · cases h
theorem newF_one (L f t : Int) (l : List Smp) (m : Nat) : (newF L f t l m).Pairwise (fun x y => x.1 * y.2 < y.1 * x.2) := by
  unfold newF
  cases lastF L l m with
  | none => exact List.Pairwise.nil
  | some j =>
    simp only [crs]
    split
    · simp
    · exact List.Pairwise.nil
theorem out_rise {L f t : Int} {l : List Smp} (hS : serErr l = 0) (m : Nat) (hm : m ≤ l.length) : (outF L f t l m).Pairwise (fun x y => x.1 * y.2 < y.1 * x.2) ∧
    ∀ x ∈ outF L f t l m, ∃ j k, (k < m ∧ (atS l k).q ≠ 2 ∧ (atS l k).v ≠ L) ∧ CrP L l j k x ∧ insB f t x = true := by
  induction m with
  | zero => exact ⟨List.Pairwise.nil, fun x hx => by cases hx⟩
  | succ m ih =>
    obtain ⟨ih1, ih2⟩ := ih (by omega)
    have hnew : ∀ y ∈ newF L f t l m, ∃ j, lastF L l m = some j ∧ ((atS l m).q ≠ 2 ∧ (atS l m).v ≠ L) ∧ CrP L l j m y ∧ insB f t y = true := by
      intro y hy
      obtain ⟨j, h1, h2, h3, rfl⟩ := newF_mem hy
      refine ⟨j, h1, ?_, cross_one hS (by omega) h1 h2, h3⟩
      unfold crC at h2
      simp only [Bool.and_eq_true, decide_eq_true_eq] at h2
      exact ⟨h2.1.2, (opp_ne h2.2).2⟩
    constructor
    · show (outF L f t l m ++ newF L f t l m).Pairwise _
      refine List.pairwise_append.2 ⟨ih1, newF_one L f t l m, fun x hx y hy => ?_⟩
      obtain ⟨i, k, ⟨hk, hkq, hkv⟩, ⟨hx1, _, hx3, _⟩, _⟩ := ih2 x hx
      obtain ⟨j, hj, _, ⟨hy1, hy2, _, _⟩, _⟩ := hnew y hy
      obtain ⟨hjm, _, _, heq⟩ := lastF_some hj
      have hkj : k ≤ j := by
        refine Nat.le_of_not_lt fun hlt => ?_
        have := heq k hlt hk
        unfold eqL at this
        simp at this
        exact hkv this.1
      have hle : (atS l k).t ≤ (atS l j).t := by
        rcases Nat.lt_or_ge k j with h | h
        · exact Int.le_of_lt (rise_ltA (serErr_rise hS) k j h (by omega))
        · rw [show k = j by omega]; exact Int.le_refl _
      have g1 := Int.mul_lt_mul_of_pos_right hx3 (show 0 < y.2 by omega)
      have g2 := Int.mul_lt_mul_of_pos_right hy2 (show 0 < x.2 by omega)
      have g3 := Int.mul_le_mul_of_nonneg_right (Int.mul_le_mul_of_nonneg_right hle (show 0 ≤ y.2 by omega)) (show 0 ≤ x.2 by omega)
      rw [Int.mul_assoc, Int.mul_comm y.2 x.2, ← Int.mul_assoc] at g3
      omega
    · intro x hx
      rcases List.mem_append.1 hx with hx | hx
      · obtain ⟨i, k, h1, h2, h3⟩ := ih2 x hx
        exact ⟨i, k, ⟨by omega, h1.2⟩, h2, h3⟩
      · obtain ⟨j, _, h2, h3, h4⟩ := hnew x hx
        exact ⟨j, m, ⟨by omega, h2⟩, h3, h4⟩
end Go.Proofs.Ytmcojidaimeijaa

/- The contract of Odd (package logmake). -/

namespace Go.Proofs.Ytmcojidaimeijaa
open Go.RowKit
set_option linter.unusedVariables false
set_option linter.unusedSimpArgs false

set_option maxRecDepth 100000 in
set_option maxHeartbeats 1000000 in
theorem odd_went (w : World) (g : Nat) (L : List Int) (A : Option Addr) (cap k : Nat) (lo hi : Int) (hS : Strm w g L A cap k) (hk : k ≤ 900000000) (hl : -1000000000 ≤ lo) (hlh : lo ≤ hi) (hh : hi ≤ 100000000000) :
    Calls Try.prog 65 #[.pointer (some ⟨g, 0, none⟩), .int .i64 lo, .int .i64 hi] w fun e w' =>
      ∃ r : Int, e = .returned (.int .i64 r) ∧ (-1099511627776 ≤ r ∧ r ≤ 1099511627776) ∧ Went w g L A cap (k + 2) w' := by
  have hr := nxt_range L (k + 1) (hi - lo + 1) (by omega)
  go_enter Try.func65, Try.ntmps65
  go_wp2_with fail
  refine (flip_went _ g L A cap k 12 hS (by omega) (by omega)).mono ?_
  rintro e w1 ⟨rfl, hw1, hz1⟩
  by_cases hN : nxt L k 12 = 0
  · have hN' : (nxt L k 12 == 0) = true := by simpa using hN
    clear hN
    go_wp2_with fail
    refine (pick_new _ _ g L A cap (k + 1) [lo - 1, hi + 1, lo, hi, -1099511627776, 1099511627776] hw1.1 hz1.symm (by omega) (by simp)).mono ?_
    rintro e w2 ⟨rfl, hw2⟩
    have hm := pk_mem [lo - 1, hi + 1, lo, hi, -1099511627776, 1099511627776] L (k + 1) (by simp)
    simp only [List.mem_cons, List.not_mem_nil, or_false] at hm
    go_wp2_with fail
    go_ret
    exact ⟨_, rfl, by omega, hw2.1, hw1.2.trans hw2.2⟩
  · have hN' : (nxt L k 12 == 0) = false := by simpa using hN
    clear hN
    go_wp2_with fail
    refine (range_went _ g L A cap (k + 1) lo hi hw1.1 (by omega) (by omega) (by omega) (by omega)).mono ?_
    rintro e w2 ⟨rfl, hw2, _⟩
    go_wp2_with fail
    go_ret
    exact ⟨_, rfl, by omega, hw2.1, hw1.2.trans hw2.2⟩
end Go.Proofs.Ytmcojidaimeijaa
