import Derived.Test.YtmcojidaimeijaaRecon
import Derived.Deep.RegionHeld3
import Derived.Deep.DeepCutAuto
import Derived.RegionTactic
import Derived.WalkLawsBesides
import Derived.Test.YtmcojidaimeijaaAbm
/- The contract of ValueAt (package query). -/

namespace Go.Proofs.Ytmcojidaimeijaa
open Go.RowKit
set_option linter.unusedVariables false
set_option linter.unusedSimpArgs false

/-- A point: its value and its quality. -/
structure Pnt where
  n : Int
  d : Int
  q : Int
/-- The value at a moment. -/
def valO (l : List Smp) (st : Bool) (t : Int) : Option Pnt :=
  if posF l (t + 1) = 0 then none
  else if st = true ∨ (atS l (posF l (t + 1) - 1)).t = t ∨ (atS l (posF l (t + 1) - 1)).q = 2 ∨ posF l (t + 1) = l.length ∨ (atS l (posF l (t + 1))).q = 2 then
    some ⟨(atS l (posF l (t + 1) - 1)).v, 1, (atS l (posF l (t + 1) - 1)).q⟩
  else some ⟨(lineAt (atS l (posF l (t + 1) - 1)) (atS l (posF l (t + 1))) t).1, (lineAt (atS l (posF l (t + 1) - 1)) (atS l (posF l (t + 1))) t).2, if (atS l (posF l (t + 1) - 1)).q < (atS l (posF l (t + 1))).q then (atS l (posF l (t + 1))).q else (atS l (posF l (t + 1) - 1)).q⟩
def pntV (t : Int) : Option Pnt → Value
  | none => .agg #[.int .i64 0, .int .i64 0, .int .i64 0, .int .i64 0]
  | some p => .agg #[.int .i64 t, .int .i64 p.n, .int .i64 p.d, .int .i64 p.q]

/-- What valueAt keeps. -/
structure VK (w0 : World) (v : Value) (l : List Smp) (w : World) : Prop where
  b : Blk w w0.heap.size 37 #[.int .i64 0, .int .i64 0, .int .i64 0, .int .i64 0]
  rd : RdS w 57 v l
  be : Below w0.heap.size w0 w
theorem VK.step {w0 w w' : World} {v : Value} {l : List Smp} (hb : Below w.heap.size w w') (h : VK w0 v l w) : VK w0 v l w' :=
  ⟨h.b.below hb h.b.lt, h.rd.below hb (Nat.le_refl _), h.be.trans (hb.mono h.be.size)⟩
theorem VK.start (w : World) (v : Value) (l : List Smp) (h : RdS w 57 v l) :
    VK w v l (w.alloc (.cells #[.int .i64 0, .int .i64 0, .int .i64 0, .int .i64 0] 37)) :=
  ⟨Blk.new w _ _, Rd.alloc h _, (Below.refl _ w).alloc (Nat.le_refl _) _⟩

/-- And the boxes of the sample and of the point. -/
structure VB (w0 : World) (v : Value) (l : List Smp) (t : Int) (P : Smp) (n : Nat) (w : World) : Prop where
  k : VK w0 v l w
  p : Blk w n 57 #[.int .i64 P.t, .int .i64 P.v, .int .i64 P.q]
  x : Blk w (n + 1) 37 #[.int .i64 t, .int .i64 P.v, .int .i64 1, .int .i64 P.q]
theorem VB.step {w0 w w' : World} {v : Value} {l : List Smp} {t : Int} {P : Smp} {n : Nat} (hb : Below w.heap.size w w') (h : VB w0 v l t P n w) : VB w0 v l t P n w' :=
  ⟨VK.step hb h.k, h.p.below hb h.p.lt, h.x.below hb h.x.lt⟩
theorem VB.stored {w0 w : World} {v : Value} {l : List Smp} {t : Int} {P : Smp} {n : Nat} (h : VB w0 v l t P n w) (u u' : Value) :
    RdS ((w.setCell ⟨n + 1, 1, none⟩ u).setCell ⟨n + 1, 2, none⟩ u') 57 v l ∧ Blk ((w.setCell ⟨n + 1, 1, none⟩ u).setCell ⟨n + 1, 2, none⟩ u') n 57 #[.int .i64 P.t, .int .i64 P.v, .int .i64 P.q] := by
  obtain ⟨cs, h3⟩ := h.x.setSame (i := 1) u
  exact ⟨Rd.setCell (Rd.setCell h.k.rd _ _ (h.x.no (by decide))) _ _ (h3.no (by decide)), (h.p.setOther (by simp) _).setOther (by simp) _⟩
theorem VB.drew {w0 w : World} {v : Value} {l : List Smp} {t : Int} {P : Smp} {n : Nat} (h : VB w0 v l t P n w) : VB w0 v l t P n w.drew :=
  VB.step (show Below w.heap.size w w.drew from ⟨rfl, rfl, rfl, Nat.le_refl _, fun _ _ => rfl⟩) h

theorem ptSet2 {w : World} {n : Nat} {T : TypeId} {a b c d : Value} (h : Blk w n T #[a, b, c, d]) (u u' : Value) : Blk ((w.setCell ⟨n, 1, none⟩ u).setCell ⟨n, 2, none⟩ u') n T #[a, u, u', d] := by
  unfold Blk at h ⊢
  simp [World.setCell, Array.getElem?_modify, h]
theorem ptSet3 {w : World} {n : Nat} {T : TypeId} {a b c d : Value} (h : Blk w n T #[a, b, c, d]) (u : Value) : Blk (w.setCell ⟨n, 3, none⟩ u) n T #[a, b, c, u] := by
  unfold Blk at h ⊢
  simp [World.setCell, Array.getElem?_modify, h]

set_option maxRecDepth 100000 in
set_option maxHeartbeats 4000000 in
theorem valueAt_any (v : Value) (l : List Smp) (st : Bool) (t : Int) (w : World) (hR : RdS w 57 v l) (hS : Rise none l) (hlong : l.length ≤ 5000) (hr : ∀ i, i < l.length → Right (atS l i)) (ht : 0 ≤ t ∧ t ≤ 345686400000) :
    Calls Try.prog 55 #[v, .bool st, .int .i64 t] w fun e w' => e = .returned (.tuple #[pntV t (valO l st t), .bool (valO l st t).isSome]) ∧ Below w.heap.size w w' := by
  obtain ⟨pa, ca, rfl⟩ := hR.lenv
  have hdef : valO l st t = if posF l (t + 1) = 0 then none
    else if st = true ∨ (atS l (posF l (t + 1) - 1)).t = t ∨ (atS l (posF l (t + 1) - 1)).q = 2 ∨ posF l (t + 1) = l.length ∨ (atS l (posF l (t + 1))).q = 2 then
      some ⟨(atS l (posF l (t + 1) - 1)).v, 1, (atS l (posF l (t + 1) - 1)).q⟩
    else some ⟨(lineAt (atS l (posF l (t + 1) - 1)) (atS l (posF l (t + 1))) t).1, (lineAt (atS l (posF l (t + 1) - 1)) (atS l (posF l (t + 1))) t).2, if (atS l (posF l (t + 1) - 1)).q < (atS l (posF l (t + 1))).q then (atS l (posF l (t + 1))).q else (atS l (posF l (t + 1) - 1)).q⟩ := rfl
  have hk0 := VK.start w (.slice pa l.length ca) l hR
  have hps := position_any (.slice pa l.length ca) l (t + 1) _ hk0.rd hS hlong
  have hpl := posF_le l (t + 1)
  have hpa := pos_around l (t + 1) hS
  generalize valO l st t = O at *
  generalize posF l (t + 1) = p at *
  have HDEF := Lib.hid hdef
  have HPS := Lib.hid hps
  have HK0 := Lib.hid hk0
  have HPA := Lib.hid hpa
  have HRR := Lib.hid hr
  clear hdef hps hk0 hpa hr hR hS
  go_enter Try.func55, Try.ntmps55
  go_wp2_with fail
  refine HPS.out.mono ?_
  rintro e w1 ⟨rfl, hb1⟩
  have hk := VK.step hb1 HK0.out
  clear HK0 HPS hb1
  have r0 : w1.cell? ⟨w.heap.size, 0, none⟩ = some (.int .i64 0) := hk.b.cell 0
  have r1 : w1.cell? ⟨w.heap.size, 1, none⟩ = some (.int .i64 0) := hk.b.cell 1
  have r2 : w1.cell? ⟨w.heap.size, 2, none⟩ = some (.int .i64 0) := hk.b.cell 2
  have r3 : w1.cell? ⟨w.heap.size, 3, none⟩ = some (.int .i64 0) := hk.b.cell 3
  have g0 : w1.frozen? ⟨w.heap.size, 0, none⟩ = false := hk.b.frozen 0
  have g1 : w1.frozen? ⟨w.heap.size, 1, none⟩ = false := hk.b.frozen 1
  have g2 : w1.frozen? ⟨w.heap.size, 2, none⟩ = false := hk.b.frozen 2
  have g3 : w1.frozen? ⟨w.heap.size, 3, none⟩ = false := hk.b.frozen 3
  have hz := hk.b.lt
  have hbl := hk.be
  by_cases hp0 : p = 0
  · have hO : O = none := by rw [HDEF.out, if_pos hp0]
    subst hO
    subst hp0
    go_wp2_with fail
    refine bodyPost_ret (v := .tuple #[pntV t none, .bool false]) (by simp [results, Try.results55, go_sem, r0, r1, r2, r3, pntV]) rfl ⟨rfl, ?_⟩
    exact hbl.trans (by (repeat (refine Below.setCell ?_ (by exact Nat.le_refl _) _)); exact Below.refl _ _)
  · have hp0' : ((p : Int) == 0) = false := by simp; omega
    obtain ⟨b, off, c, hv, hc1, hc2, hblt, hcell⟩ := RdS.at_ hk.rd (by omega)
    cases hv
    unfold maxLen at hc2
    obtain ⟨c0, c1, c2⟩ := hcell (p - 1) (by omega)
    have j1 : (0 : Int) ≤ (p : Int) - 1 := by omega
    have j2 : (p : Int) - 1 < (l.length : Int) := by omega
    have j3 : ((p : Int) - 1).toNat = p - 1 := by omega
    have hz1 : w.heap.size < w1.heap.size + 1 := by omega
    have hkb : VB w (.slice (some ⟨b, off, none⟩) l.length ca) l t (atS l (p - 1)) w1.heap.size ((w1.alloc (.cells #[.int .i64 (atS l (p - 1)).t, .int .i64 (atS l (p - 1)).v, .int .i64 (atS l (p - 1)).q] 57)).alloc (.cells #[.int .i64 t, .int .i64 (atS l (p - 1)).v, .int .i64 1, .int .i64 (atS l (p - 1)).q] 37)) :=
      ⟨VK.step ((Below.refl _ _).alloc (Nat.le_refl _) _) (VK.step ((Below.refl _ _).alloc (Nat.le_refl _) _) hk), (Blk.new _ _ _).alloc _, Blk.new1 _ _ _ _⟩
    have i1 : (0 : Int) ≤ (p : Int) := by omega
    have hO1 := HDEF.out
    rw [if_neg hp0] at hO1
    have HP := Lib.hid (show atS l (p - 1) = atS l (p - 1) from rfl)
    have HO1 := Lib.hid hO1
    have hrp := HRR.out (p - 1) (by omega)
    have hrx := fun h : p < l.length => HRR.out p h
    have hlp := HPA.out.1 (p - 1) (by omega) (by omega)
    have hlx := HPA.out.2
    clear hO1 HDEF HRR HPA r0 r1 r2 r3 g0 g1 g2 g3 hcell hk
    generalize hPe : atS l (p - 1) = P at *
    generalize hXe : atS l p = X at *
    have HPE := Lib.hid hPe
    have HXE := Lib.hid hXe
    clear hPe hXe HP
    go_upto_region 6 with fail
    generalize (w1.alloc (.cells #[.int .i64 P.t, .int .i64 P.v, .int .i64 P.q] 57)).alloc (.cells #[.int .i64 t, .int .i64 P.v, .int .i64 1, .int .i64 P.q] 37) = W2 at *
    have hne : ¬ w1.heap.size = w.heap.size := by omega
    have hne2 : ¬ w1.heap.size + 1 = w.heap.size := by omega
    clear c0 c1 c2 hbl hblt hz1
    generalize w1.heap.size = n at *
    have r0 : W2.cell? ⟨w.heap.size, 0, none⟩ = some (.int .i64 0) := hkb.k.b.cell 0
    have r1 : W2.cell? ⟨w.heap.size, 1, none⟩ = some (.int .i64 0) := hkb.k.b.cell 1
    have r2 : W2.cell? ⟨w.heap.size, 2, none⟩ = some (.int .i64 0) := hkb.k.b.cell 2
    have r3 : W2.cell? ⟨w.heap.size, 3, none⟩ = some (.int .i64 0) := hkb.k.b.cell 3
    have g0 : W2.frozen? ⟨w.heap.size, 0, none⟩ = false := hkb.k.b.frozen 0
    have g1 : W2.frozen? ⟨w.heap.size, 1, none⟩ = false := hkb.k.b.frozen 1
    have g2 : W2.frozen? ⟨w.heap.size, 2, none⟩ = false := hkb.k.b.frozen 2
    have g3 : W2.frozen? ⟨w.heap.size, 3, none⟩ = false := hkb.k.b.frozen 3
    have p0 : W2.cell? ⟨n, 0, none⟩ = some (.int .i64 P.t) := hkb.p.cell 0
    have p1 : W2.cell? ⟨n, 1, none⟩ = some (.int .i64 P.v) := hkb.p.cell 1
    have p2 : W2.cell? ⟨n, 2, none⟩ = some (.int .i64 P.q) := hkb.p.cell 2
    have x0 : W2.cell? ⟨n + 1, 0, none⟩ = some (.int .i64 t) := hkb.x.cell 0
    have x1 : W2.cell? ⟨n + 1, 1, none⟩ = some (.int .i64 P.v) := hkb.x.cell 1
    have x2 : W2.cell? ⟨n + 1, 2, none⟩ = some (.int .i64 1) := hkb.x.cell 2
    have x3 : W2.cell? ⟨n + 1, 3, none⟩ = some (.int .i64 P.q) := hkb.x.cell 3
    have hbe := hkb.k.be
    by_cases hs : st = true ∨ P.t = t ∨ P.q = 2 ∨ p = l.length ∨ X.q = 2
    · have HO := Lib.hid (show O = some ⟨P.v, 1, P.q⟩ by rw [HO1.out, if_pos hs])
      have HS := Lib.hid hs
      clear hs hrx hlx hrp hlp HO1
      cases st
      · by_cases ht1 : P.t = t
        · have ht1' : (P.t == t) = true := by simpa using ht1
          clear ht1 hkb
          go_wp2_with fail
          refine bodyPost_ret (v := .tuple #[pntV t (some ⟨P.v, 1, P.q⟩), .bool true]) (by simp [results, Try.results55, go_sem, r0, r1, r2, r3, pntV]) rfl ⟨by rw [HO.out]; rfl, ?_⟩
          exact hbe.trans (by (repeat (refine Below.setCell ?_ (by exact Nat.le_refl _) _)); exact Below.refl _ _)
        · have ht1' : (P.t == t) = false := by simpa using ht1
          by_cases hq1 : P.q = 2
          · have hq1' : (P.q == 2) = true := by simpa using hq1
            clear ht1 hq1 hkb
            go_wp2_with fail
            refine bodyPost_ret (v := .tuple #[pntV t (some ⟨P.v, 1, P.q⟩), .bool true]) (by simp [results, Try.results55, go_sem, r0, r1, r2, r3, pntV]) rfl ⟨by rw [HO.out]; rfl, ?_⟩
            exact hbe.trans (by (repeat (refine Below.setCell ?_ (by exact Nat.le_refl _) _)); exact Below.refl _ _)
          · have hq1' : (P.q == 2) = false := by simpa using hq1
            by_cases hpn : p = l.length
            · have hpn' : ((p : Int) == (l.length : Int)) = true := by simp; omega
              clear ht1 hq1 hpn hkb
              go_wp2_with fail
              refine bodyPost_ret (v := .tuple #[pntV t (some ⟨P.v, 1, P.q⟩), .bool true]) (by simp [results, Try.results55, go_sem, r0, r1, r2, r3, pntV]) rfl ⟨by rw [HO.out]; rfl, ?_⟩
              exact hbe.trans (by (repeat (refine Below.setCell ?_ (by exact Nat.le_refl _) _)); exact Below.refl _ _)
            · have hpn' : ((p : Int) == (l.length : Int)) = false := by simp; omega
              have hxq : X.q = 2 := by
                rcases HS.out with h | h | h | h | h
                · cases h
                · exact absurd h ht1
                · exact absurd h hq1
                · exact absurd h hpn
                · exact h
              have hxq' : (X.q == 2) = true := by simpa using hxq
              have hplt : (p : Int) < (l.length : Int) := by omega
              have n2 : W2.cell? ⟨b, off + p * 3 + 2, none⟩ = some (.int .i64 X.q) := by rw [← HXE.out]; exact (hkb.k.rd.atv p (by omega)).2.2.1
              clear ht1 hq1 hpn hkb hxq
              go_wp2_with fail
              refine bodyPost_ret (v := .tuple #[pntV t (some ⟨P.v, 1, P.q⟩), .bool true]) (by simp [results, Try.results55, go_sem, r0, r1, r2, r3, pntV]) rfl ⟨by rw [HO.out]; rfl, ?_⟩
              exact hbe.trans (by (repeat (refine Below.setCell ?_ (by exact Nat.le_refl _) _)); exact Below.refl _ _)
      · clear hkb
        go_wp2_with fail
        refine bodyPost_ret (v := .tuple #[pntV t (some ⟨P.v, 1, P.q⟩), .bool true]) (by simp [results, Try.results55, go_sem, r0, r1, r2, r3, pntV]) rfl ⟨by rw [HO.out]; rfl, ?_⟩
        exact hbe.trans (by (repeat (refine Below.setCell ?_ (by exact Nat.le_refl _) _)); exact Below.refl _ _)
    · have hst : st = false := by cases st; · rfl
                                  · exact absurd (.inl rfl) hs
      have ht1' : (P.t == t) = false := by simpa using fun h => hs (.inr (.inl h))
      have hq1' : (P.q == 2) = false := by simpa using fun h => hs (.inr (.inr (.inl h)))
      have hpn : ¬ p = l.length := fun h => hs (.inr (.inr (.inr (.inl h))))
      have hpn' : ((p : Int) == (l.length : Int)) = false := by simp; omega
      have hxq' : (X.q == 2) = false := by simpa using fun h => hs (.inr (.inr (.inr (.inr h))))
      have hplt : (p : Int) < (l.length : Int) := by omega
      have HO := Lib.hid (show O = some ⟨(lineAt P X t).1, (lineAt P X t).2, if P.q < X.q then X.q else P.q⟩ by rw [HO1.out, if_neg hs])
      have hon := fun w => onLine_any P X t w hrp (hrx (by omega)) (by have := hlx (by omega); omega) (by have := hlx (by omega); omega)
      have hat : ∀ w', RdS w' 57 (.slice (some ⟨b, off, none⟩) l.length ca) l → Blk w' n 57 #[.int .i64 P.t, .int .i64 P.v, .int .i64 P.q] → w'.cell? ⟨b, off + p * 3, none⟩ = some (.int .i64 X.t) ∧ w'.cell? ⟨b, off + p * 3 + 1, none⟩ = some (.int .i64 X.v) ∧ w'.cell? ⟨b, off + p * 3 + 2, none⟩ = some (.int .i64 X.q) ∧ w'.cell? ⟨n, 0, none⟩ = some (.int .i64 P.t) ∧ w'.cell? ⟨n, 1, none⟩ = some (.int .i64 P.v) ∧ w'.cell? ⟨n, 2, none⟩ = some (.int .i64 P.q) := fun w' h hp => by
        have h1 := h.atv p (by omega)
        rw [HXE.out] at h1
        exact ⟨h1.1, h1.2.1, h1.2.2.1, hp.cell 0, hp.cell 1, hp.cell 2⟩
      have HAT := Lib.hid hat
      have HON := Lib.hid hon
      generalize lineAt P X t = V at *
      subst hst
      obtain ⟨n0, n1, n2, _⟩ := hat _ hkb.k.rd hkb.p
      clear hs HO1 hrp hrx hlp hlx hpn hat hon
      go_upto_region 8 with fail
      go_region_held3 (fun w' => w'.cell? ⟨b, off + p * 3, none⟩ = some (.int .i64 X.t) ∧ w'.cell? ⟨b, off + p * 3 + 1, none⟩ = some (.int .i64 X.v) ∧ w'.cell? ⟨b, off + p * 3 + 2, none⟩ = some (.int .i64 X.q) ∧ w'.cell? ⟨n, 0, none⟩ = some (.int .i64 P.t) ∧ w'.cell? ⟨n, 1, none⟩ = some (.int .i64 P.v) ∧ w'.cell? ⟨n, 2, none⟩ = some (.int .i64 P.q))
        (first | exact HAT.out _ hkk.k.rd hkk.p | exact HAT.out _ hkb.k.rd hkb.p | exact HAT.out _ (hkk.stored _ _).1 (hkk.stored _ _).2 | go_keep)
        (first | (go_at_call 101; refine (HON.out _).mono ?_; rintro e wk ⟨rfl, hbk⟩; have hkk := VB.step hbk (by first | assumption | exact VB.drew (by assumption)); have t0 : wk.frozen? ⟨n + 1, 1, none⟩ = false := hkk.x.frozen 1; have t1 : wk.frozen? ⟨n + 1, 2, none⟩ = false := hkk.x.frozen 2; have t2 : wk.cell? ⟨n + 1, 1, none⟩ = some (.int .i64 P.v) := hkk.x.cell 1; have t3 : wk.cell? ⟨n + 1, 2, none⟩ = some (.int .i64 1) := hkk.x.cell 2; clear hbk))
      go_upto_region 9 with fail
      have hbk := hkk.k.be
      have hsr := hkk.stored (.int .i64 V.1) (.int .i64 V.2)
      have hx3 : Blk ((wk.setCell ⟨n + 1, 1, none⟩ (.int .i64 V.1)).setCell ⟨n + 1, 2, none⟩ (.int .i64 V.2)) (n + 1) 37 #[.int .i64 t, .int .i64 V.1, .int .i64 V.2, .int .i64 P.q] := ptSet2 hkk.x _ _
      have hb3 : Blk ((wk.setCell ⟨n + 1, 1, none⟩ (.int .i64 V.1)).setCell ⟨n + 1, 2, none⟩ (.int .i64 V.2)) w.heap.size 37 #[.int .i64 0, .int .i64 0, .int .i64 0, .int .i64 0] := (hkk.k.b.setOther (by simp; omega) _).setOther (by simp; omega) _
      have hbe3 : Below w.heap.size w ((wk.setCell ⟨n + 1, 1, none⟩ (.int .i64 V.1)).setCell ⟨n + 1, 2, none⟩ (.int .i64 V.2)) := (hbk.setCell (by simp; omega) _).setCell (by simp; omega) _
      obtain ⟨m0, m1, m2, q0, q1, q2⟩ := HAT.out _ hsr.1 hsr.2
      clear hkk t0 t1 t2 t3 hbk hsr
      generalize (wk.setCell ⟨n + 1, 1, none⟩ (.int .i64 V.1)).setCell ⟨n + 1, 2, none⟩ (.int .i64 V.2) = w5 at *
      have f3 : w5.frozen? ⟨n + 1, 3, none⟩ = false := hx3.frozen 3
      have y0 : w5.cell? ⟨n + 1, 0, none⟩ = some (.int .i64 t) := hx3.cell 0
      have y1 : w5.cell? ⟨n + 1, 1, none⟩ = some (.int .i64 V.1) := hx3.cell 1
      have y2 : w5.cell? ⟨n + 1, 2, none⟩ = some (.int .i64 V.2) := hx3.cell 2
      have y3 : w5.cell? ⟨n + 1, 3, none⟩ = some (.int .i64 P.q) := hx3.cell 3
      clear r0 r1 r2 r3 g0 g1 g2 g3 p0 p1 p2 x0 x1 x2 x3 hbe n0 n1 n2
      go_region
      clear y0 y1 y2 y3 f3
      generalize hQ : (if P.q < X.q then X.q else P.q) = Q at *
      have HQ := Lib.hid hQ
      clear hQ
      have hx4 : Blk (w5.setCell ⟨n + 1, 3, none⟩ (.int .i64 Q)).drew (n + 1) 37 #[.int .i64 t, .int .i64 V.1, .int .i64 V.2, .int .i64 Q] := ptSet3 hx3 _
      have hb4 : Blk (w5.setCell ⟨n + 1, 3, none⟩ (.int .i64 Q)).drew w.heap.size 37 #[.int .i64 0, .int .i64 0, .int .i64 0, .int .i64 0] := hb3.setOther (by simp; omega) _
      have hbe4 : Below w.heap.size w (w5.setCell ⟨n + 1, 3, none⟩ (.int .i64 Q)).drew := (hbe3.setCell (by simp; omega) _).drew
      generalize (w5.setCell ⟨n + 1, 3, none⟩ (.int .i64 Q)).drew = w6 at *
      have y0 : w6.cell? ⟨n + 1, 0, none⟩ = some (.int .i64 t) := hx4.cell 0
      have y1 : w6.cell? ⟨n + 1, 1, none⟩ = some (.int .i64 V.1) := hx4.cell 1
      have y2 : w6.cell? ⟨n + 1, 2, none⟩ = some (.int .i64 V.2) := hx4.cell 2
      have y3 : w6.cell? ⟨n + 1, 3, none⟩ = some (.int .i64 Q) := hx4.cell 3
      have r0 : w6.cell? ⟨w.heap.size, 0, none⟩ = some (.int .i64 0) := hb4.cell 0
      have r1 : w6.cell? ⟨w.heap.size, 1, none⟩ = some (.int .i64 0) := hb4.cell 1
      have r2 : w6.cell? ⟨w.heap.size, 2, none⟩ = some (.int .i64 0) := hb4.cell 2
      have r3 : w6.cell? ⟨w.heap.size, 3, none⟩ = some (.int .i64 0) := hb4.cell 3
      have g0 : w6.frozen? ⟨w.heap.size, 0, none⟩ = false := hb4.frozen 0
      have g1 : w6.frozen? ⟨w.heap.size, 1, none⟩ = false := hb4.frozen 1
      have g2 : w6.frozen? ⟨w.heap.size, 2, none⟩ = false := hb4.frozen 2
      have g3 : w6.frozen? ⟨w.heap.size, 3, none⟩ = false := hb4.frozen 3
      go_wp2_with fail
      refine bodyPost_ret (v := .tuple #[pntV t (some ⟨V.1, V.2, Q⟩), .bool true]) (by simp [results, Try.results55, go_sem, r0, r1, r2, r3, pntV]) rfl ⟨by rw [HO.out]; rfl, ?_⟩
      exact hbe4.trans (by (repeat (refine Below.setCell ?_ (by exact Nat.le_refl _) _)); exact Below.refl _ _)

theorem pntV_agg (t : Int) (O : Option Pnt) : ∃ a b c d : Int, pntV t O = .agg #[.int .i64 a, .int .i64 b, .int .i64 c, .int .i64 d] := by
  cases O with
  | none => exact ⟨0, 0, 0, 0, rfl⟩
  | some p => exact ⟨t, p.n, p.d, p.q, rfl⟩
def vatE (l : List Smp) (t : Int) : Int := if serErr l ≠ 0 then serErr l else if inB t 0 345686399999 = false then 1 else 0
def vatO (l : List Smp) (st : Bool) (t : Int) : Option Pnt := if vatE l t = 0 then valO l st t else none

set_option maxRecDepth 100000 in
set_option maxHeartbeats 4000000 in
theorem publicValueAt_any (v : Value) (l : List Smp) (st : Bool) (t : Int) (w : World) (hR : RdS w 57 v l) :
    Calls Try.prog 16 #[v, .bool st, .int .i64 t] w fun e w' => e = .returned (.tuple #[pntV t (vatO l st t), .bool (vatO l st t).isSome, .int .i64 (vatE l t)]) ∧ Below w.heap.size w w' := by
  have hE : vatE l t = if serErr l ≠ 0 then serErr l else if inB t 0 345686399999 = false then 1 else 0 := rfl
  have hO : vatO l st t = if vatE l t = 0 then valO l st t else none := rfl
  generalize vatO l st t = O at *
  generalize vatE l t = E at *
  have HE := Lib.hid hE
  have HO := Lib.hid hO
  have hk0 := VK.start w v l hR
  have HK0 := Lib.hid hk0
  clear hE hO hR hk0
  go_enter Try.func16, Try.ntmps16
  go_wp2_with fail
  refine (checkSeries_any v l _ HK0.out.rd).mono ?_
  rintro e w1 ⟨rfl, hb1⟩
  have hk := VK.step hb1 HK0.out
  clear HK0 hb1
  have r0 : w1.cell? ⟨w.heap.size, 0, none⟩ = some (.int .i64 0) := hk.b.cell 0
  have r1 : w1.cell? ⟨w.heap.size, 1, none⟩ = some (.int .i64 0) := hk.b.cell 1
  have r2 : w1.cell? ⟨w.heap.size, 2, none⟩ = some (.int .i64 0) := hk.b.cell 2
  have r3 : w1.cell? ⟨w.heap.size, 3, none⟩ = some (.int .i64 0) := hk.b.cell 3
  have g0 : w1.frozen? ⟨w.heap.size, 0, none⟩ = false := hk.b.frozen 0
  have g1 : w1.frozen? ⟨w.heap.size, 1, none⟩ = false := hk.b.frozen 1
  have g2 : w1.frozen? ⟨w.heap.size, 2, none⟩ = false := hk.b.frozen 2
  have g3 : w1.frozen? ⟨w.heap.size, 3, none⟩ = false := hk.b.frozen 3
  have hz := hk.b.lt
  have hbl := hk.be
  by_cases hS : serErr l = 0
  · have hS' : (serErr l != 0) = false := by simpa using hS
    have HS := Lib.hid hS
    clear hS
    go_wp2_with fail
    refine (moment_any t _).mono ?_
    rintro e w2 ⟨rfl, rfl⟩
    cases hT : inB t 0 345686399999
    · have hE1 : E = 1 := by rw [HE.out, if_neg (by rw [HS.out]; simp), if_pos hT]
      have HE1 := Lib.hid hE1
      clear hT hE1
      go_wp2_with fail
      refine bodyPost_ret (v := .tuple #[pntV t none, .bool false, .int .i64 1]) (by simp [results, Try.results16, go_sem, r0, r1, r2, r3, pntV]) rfl ⟨by rw [HO.out, if_neg (by rw [HE1.out]; omega), HE1.out]; rfl, ?_⟩
      exact hbl.trans (by (repeat (refine Below.setCell ?_ (by exact Nat.le_refl _) _)); exact Below.refl _ _)
    · have hE1 : E = 0 := by rw [HE.out, if_neg (by rw [HS.out]; simp), if_neg (by rw [hT]; simp)]
      have HE1 := Lib.hid hE1
      have hO1 : O = valO l st t := by rw [HO.out, if_pos hE1]
      have HO1 := Lib.hid hO1
      have hTT := inB_true.1 hT
      have hva := valueAt_any v l st t w1 hk.rd (serErr_rise HS.out) (serErr_good HS.out).1 (fun i _ => ⟨(serErr_vt HS.out i).2, (serErr_vt HS.out i).1⟩) (by omega)
      rw [← hO1] at hva
      obtain ⟨a, b', c, d, hp⟩ := pntV_agg t O
      rw [hp] at hva
      have HP := Lib.hid hp
      have HVA := Lib.hid hva
      clear hT hE1 hO1 hp hva
      go_wp2_with fail
      refine HVA.out.mono ?_
      rintro e w3 ⟨rfl, hb3⟩
      have hk3 := VK.step hb3 hk
      have hz3 := hk3.b.lt
      have hb4 : Blk (w3.alloc (.cells #[.int .i64 a, .int .i64 b', .int .i64 c, .int .i64 d] 37)) w.heap.size 37 #[.int .i64 0, .int .i64 0, .int .i64 0, .int .i64 0] := hk3.b.alloc _
      have hx4 := Blk.new w3 37 #[.int .i64 a, .int .i64 b', .int .i64 c, .int .i64 d]
      have hbe4 := hk3.be.alloc hk3.be.size (.cells #[.int .i64 a, .int .i64 b', .int .i64 c, .int .i64 d] 37)
      clear hb3 r0 r1 r2 r3 g0 g1 g2 g3 hk hbl hk3
      go_upto_region 7 with fail
      have hne : ¬ w3.heap.size = w.heap.size := by omega
      generalize w3.alloc (.cells #[.int .i64 a, .int .i64 b', .int .i64 c, .int .i64 d] 37) = w6 at *
      generalize w3.heap.size = n at *
      have y0 : w6.cell? ⟨n, 0, none⟩ = some (.int .i64 a) := hx4.cell 0
      have y1 : w6.cell? ⟨n, 1, none⟩ = some (.int .i64 b') := hx4.cell 1
      have y2 : w6.cell? ⟨n, 2, none⟩ = some (.int .i64 c) := hx4.cell 2
      have y3 : w6.cell? ⟨n, 3, none⟩ = some (.int .i64 d) := hx4.cell 3
      have r0 : w6.cell? ⟨w.heap.size, 0, none⟩ = some (.int .i64 0) := hb4.cell 0
      have r1 : w6.cell? ⟨w.heap.size, 1, none⟩ = some (.int .i64 0) := hb4.cell 1
      have r2 : w6.cell? ⟨w.heap.size, 2, none⟩ = some (.int .i64 0) := hb4.cell 2
      have r3 : w6.cell? ⟨w.heap.size, 3, none⟩ = some (.int .i64 0) := hb4.cell 3
      have g0 : w6.frozen? ⟨w.heap.size, 0, none⟩ = false := hb4.frozen 0
      have g1 : w6.frozen? ⟨w.heap.size, 1, none⟩ = false := hb4.frozen 1
      have g2 : w6.frozen? ⟨w.heap.size, 2, none⟩ = false := hb4.frozen 2
      have g3 : w6.frozen? ⟨w.heap.size, 3, none⟩ = false := hb4.frozen 3
      go_wp2_with fail
      refine bodyPost_ret (v := .tuple #[.agg #[.int .i64 a, .int .i64 b', .int .i64 c, .int .i64 d], .bool O.isSome, .int .i64 0]) (by simp [results, Try.results16, go_sem, r0, r1, r2, r3]) rfl ⟨by rw [HP.out, HE1.out], ?_⟩
      exact hbe4.trans (by (repeat (refine Below.setCell ?_ (by exact Nat.le_refl _) _)); exact Below.refl _ _)
  · have hS' : (serErr l != 0) = true := by simpa using hS
    have hE1 : E = serErr l := by rw [HE.out, if_pos hS]
    have HS := Lib.hid hS
    have HE1 := Lib.hid hE1
    clear hS hE1
    go_wp2_with fail
    refine bodyPost_ret (v := .tuple #[pntV t none, .bool false, .int .i64 (serErr l)]) (by simp [results, Try.results16, go_sem, r0, r1, r2, r3, pntV]) rfl ⟨by rw [HO.out, if_neg (by rw [HE1.out]; exact HS.out), HE1.out]; rfl, ?_⟩
    exact hbl.trans (by (repeat (refine Below.setCell ?_ (by exact Nat.le_refl _) _)); exact Below.refl _ _)
end Go.Proofs.Ytmcojidaimeijaa

/- Mathematics of Above: a moment lies in a window exactly if the value that counts there is above the limit; a higher limit is passed for no longer. -/

namespace Go.Proofs.Ytmcojidaimeijaa
open Go.RowKit
set_option linter.unusedVariables false
set_option linter.unusedSimpArgs false

/-- A moment lies in one of the windows. -/
def covW (l : List (Int × Int)) (p : Int) : Bool := l.any fun w => decide (w.1 ≤ p) && decide (p < w.2)
theorem covW_true {l : List (Int × Int)} {p : Int} : covW l p = true ↔ ∃ w ∈ l, w.1 ≤ p ∧ p < w.2 := by
  simp [covW]
theorem covW_jn {l : List (Int × Int)} {a b p : Int} (h : ∀ w ∈ l, w.2 ≤ a) (hw : ∀ w ∈ l, w.1 ≤ w.2) (hab : a ≤ b) : covW (jnF l a b) p = true ↔ covW l p = true ∨ (a ≤ p ∧ p < b) := by
  rw [jnF_ref h]
  by_cases hc : l ≠ [] ∧ (l.getD (l.length - 1) (0, 0)).2 = a
  · rw [if_pos hc]
    obtain ⟨hne, hla⟩ := hc
    rcases List.eq_nil_or_concat l with rfl | ⟨A, ⟨q, z⟩, rfl⟩
    · exact absurd rfl hne
    · rw [List.concat_eq_append] at *
      have e : (A ++ [(q, z)]).length - 1 = A.length := by simp
      have g : (A ++ [(q, z)]).getD A.length (0, 0) = (q, z) := by
        rw [List.getD_eq_getElem?_getD, List.getElem?_append_right (Nat.le_refl _)]; simp
      rw [e, g] at hla ⊢
      have hqz := hw (q, z) (by simp)
      simp only at hla hqz
      subst hla
      rw [List.set_append_right _ _ (Nat.le_refl _), Nat.sub_self, List.set_cons_zero, covW_true, covW_true]
      constructor
      · rintro ⟨w, hw1, hw2⟩
        rcases List.mem_append.1 hw1 with h1 | h1
        · exact .inl ⟨w, List.mem_append_left _ h1, hw2⟩
        · simp only [List.mem_singleton] at h1
          subst h1
          simp only at hw2
          by_cases hz : p < z
          · exact .inl ⟨(q, z), by simp, hw2.1, hz⟩
          · exact .inr ⟨by omega, hw2.2⟩
      · rintro (⟨w, hw1, hw2⟩ | h2)
        · rcases List.mem_append.1 hw1 with h1 | h1
          · exact ⟨w, List.mem_append_left _ h1, hw2⟩
          · simp only [List.mem_singleton] at h1
            subst h1
            simp only at hw2
            by_cases hb : p < b
            · exact ⟨(q, b), by simp, hw2.1, hb⟩
            · omega
        · exact ⟨(q, b), by simp, by simp only; omega, h2.2⟩
  · rw [if_neg hc, covW_true, covW_true]
    constructor
    · rintro ⟨w, hw1, hw2⟩
      rcases List.mem_append.1 hw1 with h1 | h1
      · exact .inl ⟨w, h1, hw2⟩
      · simp only [List.mem_singleton] at h1
        subst h1
        exact .inr hw2
    · rintro (⟨w, hw1, hw2⟩ | h2)
      · exact ⟨w, List.mem_append_left _ hw1, hw2⟩
      · exact ⟨(a, b), by simp, h2⟩

theorem jnF_mem {l : List (Int × Int)} {a b : Int} {P : Int × Int → Prop} (h : ∀ w ∈ l, P w) (hab : P (a, b)) (hb : ∀ w ∈ l, P (w.1, b)) : ∀ w ∈ jnF l a b, P w := by
  intro w hw
  unfold jnF at hw
  by_cases hc : l = [] ∨ (l.getD (l.length - 1) (0, 0)).2 < a
  · rw [if_pos hc, List.mem_append] at hw
    rcases hw with hw | hw
    · exact h w hw
    · simp only [List.mem_singleton] at hw; subst hw; exact hab
  · rw [if_neg hc] at hw
    rcases List.mem_or_eq_of_mem_set hw with hw | hw
    · exact h w hw
    · subst hw
      have hne : l ≠ [] := fun e => hc (.inl e)
      have hm : l.length - 1 < l.length := by have := List.length_pos_iff.2 hne; omega
      rw [List.getD_eq_getElem?_getD, List.getElem?_eq_getElem hm]
      exact hb _ (List.getElem_mem hm)
/-- A moment lies in a window exactly if it lies in a stretch whose value is above the limit. -/
theorem covW_abS (L p0 : Int) (r : List Str) (p : Int) : Chain p0 r → (∀ w ∈ (abS L r).1, w.1 ≤ w.2) ∧ (covW (abS L r).1 p = true ↔ ∃ x ∈ r, L < x.s.v ∧ x.a ≤ p ∧ p < x.b) := by
  refine snocI (P := fun r => Chain p0 r → (∀ w ∈ (abS L r).1, w.1 ≤ w.2) ∧ (covW (abS L r).1 p = true ↔ ∃ x ∈ r, L < x.s.v ∧ x.a ≤ p ∧ p < x.b)) (fun _ => ⟨fun w hw => by simp [abS] at hw, by simp [abS, covW]⟩) (fun r x ih hch => ?_) r
  have hcr : Chain p0 r ∧ (∀ y ∈ r, y.b ≤ x.a) ∧ x.a < x.b := by
    have hk := chain_before hch r.length (by simp)
    have hat : atT (r ++ [x]) r.length = x := by simp [atT]
    rw [hat, List.take_left] at hk
    have hc2 : ∀ (q : Int) (a : List Str), Chain q (a ++ [x]) → Chain q a ∧ x.a < x.b := by
      intro q a
      induction a generalizing q with
      | nil => intro h; exact ⟨trivial, h.2.1⟩
      | cons y a ih2 => intro h; have := ih2 y.b h.2.2; exact ⟨⟨h.1, h.2.1, this.1⟩, this.2⟩
    exact ⟨(hc2 p0 r hch).1, hk.2, (hc2 p0 r hch).2⟩
  obtain ⟨h1, h2⟩ := ih hcr.1
  rw [abS_snoc]
  unfold abT
  by_cases hv : L < x.s.v
  · rw [if_pos hv]
    have hle := abS_le L x.a r hcr.2.1
    refine ⟨jnF_mem h1 (Int.le_of_lt hcr.2.2) (fun w hw => by have a1 := h1 w hw; have a2 := hle w hw; simp only; omega), ?_⟩
    rw [covW_jn hle h1 (Int.le_of_lt hcr.2.2), h2]
    constructor
    · rintro (⟨y, hy, h3⟩ | h3)
      · exact ⟨y, List.mem_append_left _ hy, h3⟩
      · exact ⟨x, by simp, hv, h3⟩
    · rintro ⟨y, hy, h3⟩
      rcases List.mem_append.1 hy with hy | hy
      · exact .inl ⟨y, hy, h3⟩
      · simp only [List.mem_singleton] at hy
        subst hy
        exact .inr h3.2
  · rw [if_neg hv]
    refine ⟨h1, h2.trans ?_⟩
    constructor
    · rintro ⟨y, hy, h3⟩
      exact ⟨y, List.mem_append_left _ hy, h3⟩
    · rintro ⟨y, hy, h3⟩
      rcases List.mem_append.1 hy with hy | hy
      · exact ⟨y, hy, h3⟩
      · simp only [List.mem_singleton] at hy
        subst hy
        exact absurd h3.1 hv
/-- A higher limit is passed for no longer. -/
theorem abS_less (L p0 : Int) (r : List Str) : Chain p0 r → (abS (L + 1) r).2 ≤ (abS L r).2 := by
  refine snocI (P := fun r => Chain p0 r → (abS (L + 1) r).2 ≤ (abS L r).2) (fun _ => by simp [abS]) (fun r x ih hch => ?_) r
  have hc2 : ∀ (q : Int) (a : List Str), Chain q (a ++ [x]) → Chain q a ∧ x.a < x.b := by
    intro q a
    induction a generalizing q with
    | nil => intro h; exact ⟨trivial, h.2.1⟩
    | cons y a ih2 => intro h; have := ih2 y.b h.2.2; exact ⟨⟨h.1, h.2.1, this.1⟩, this.2⟩
  obtain ⟨h1, h2⟩ := hc2 p0 r hch
  have ih := ih h1
  rw [abS_snoc, abS_snoc]
  unfold abT
  by_cases hv : L + 1 < x.s.v
  · rw [if_pos hv, if_pos (by omega)]; simp only; omega
  · rw [if_neg hv]
    split
    · simp only; omega
    · exact ih
/-- The stepped value at a moment is above the limit exactly where the moment lies in a window. -/
theorem above_at {l : List Smp} {f t L p : Int} (hS : serErr l = 0) (hf : 0 ≤ f) (hp : f ≤ p ∧ p < t) : covW (aboV l f t L).1 p = true ↔ ∃ s : Pnt, valO l true p = some s ∧ s.q ≠ 2 ∧ L < s.n := by
  have hrise := serErr_rise hS
  have hch : Chain f (valL l f t) := (strL_chain hrise).filter _
  have h1 := (covW_abS L f (valL l f t) p hch).2
  have hpl := posF_le l (p + 1)
  have hiff := fun i (hi : i < l.length) => posF_iff l (p + 1) none hrise i hi
  have hone : ∀ k, k ≤ l.length → ∀ x ∈ strTo l f t k, ∃ i, i < k ∧ x = ⟨strA l f i, strB l t i, atS l i⟩ := by
    intro k
    induction k with
    | zero => intro _ x hx; cases hx
    | succ k ih =>
      intro hk x hx
      rw [show strTo l f t (k + 1) = strTo l f t k ++ strOne l f t k from rfl] at hx
      rcases List.mem_append.1 hx with hx | hx
      · obtain ⟨i, h2, h3⟩ := ih (by omega) x hx
        exact ⟨i, by omega, h3⟩
      · unfold strOne at hx
        split at hx
        · simp only [List.mem_singleton] at hx
          exact ⟨k, by omega, hx⟩
        · cases hx
  have hmem : ∀ k i, i < k → strA l f i < strB l t i → (⟨strA l f i, strB l t i, atS l i⟩ : Str) ∈ strTo l f t k := by
    intro k
    induction k with
    | zero => intro i hi; omega
    | succ k ih =>
      intro i hi hab
      rw [show strTo l f t (k + 1) = strTo l f t k ++ strOne l f t k from rfl]
      by_cases e : i = k
      · subst e
        refine List.mem_append_right _ ?_
        unfold strOne
        rw [if_pos hab]
        simp
      · exact List.mem_append_left _ (ih i (by omega) hab)
  have hin : ∀ i, i < l.length → ((strA l f i ≤ p ∧ p < strB l t i) ↔ i + 1 = posF l (p + 1)) := by
    intro i hi
    have h2 := hiff i hi
    unfold strA strB
    by_cases h3 : i + 1 < l.length
    · have h4 := hiff (i + 1) h3
      have h5 := rise_ltA hrise i (i + 1) (by omega) h3
      constructor
      · rintro ⟨h6, h7⟩
        split at h6 <;> split at h7 <;> omega
      · intro h6
        constructor
        · split <;> omega
        · split <;> omega
    · constructor
      · rintro ⟨h6, h7⟩
        split at h6 <;> omega
      · intro h6
        constructor
        · split <;> omega
        · rw [if_neg (by omega)]; omega
  unfold aboV
  rw [h1]
  constructor
  · rintro ⟨x, hx, hv, hx2⟩
    unfold valL at hx
    obtain ⟨hx1, hx3⟩ := List.mem_filter.1 hx
    obtain ⟨i, hi, rfl⟩ := hone _ (Nat.le_refl _) x hx1
    have h2 := (hin i hi).1 hx2
    simp only [decide_eq_true_eq] at hx3
    refine ⟨⟨(atS l i).v, 1, (atS l i).q⟩, ?_, by simp only; omega, hv⟩
    unfold valO
    rw [← h2, if_neg (by omega), if_pos (.inl rfl), Nat.add_sub_cancel]
  · rintro ⟨s, hs, hq, hv⟩
    unfold valO at hs
    by_cases h0 : posF l (p + 1) = 0
    · rw [if_pos h0] at hs; cases hs
    · rw [if_neg h0, if_pos (.inl rfl)] at hs
      obtain ⟨i, hi⟩ : ∃ i, posF l (p + 1) = i + 1 := ⟨posF l (p + 1) - 1, by omega⟩
      rw [hi, Nat.add_sub_cancel] at hs
      simp only [Option.some.injEq] at hs
      subst hs
      simp only at hq hv
      have hil : i < l.length := by omega
      have h2 := (hin i hil).2 hi.symm
      have hg := smpErr_good ((serErr_good hS).2 (atS l i) (by rw [← atS_eq l i hil]; exact List.getElem_mem _))
      refine ⟨⟨strA l f i, strB l t i, atS l i⟩, ?_, hv, h2⟩
      unfold valL
      refine List.mem_filter.2 ⟨hmem _ i hil (by omega), ?_⟩
      simp only [decide_eq_true_eq]
      omega
end Go.Proofs.Ytmcojidaimeijaa
