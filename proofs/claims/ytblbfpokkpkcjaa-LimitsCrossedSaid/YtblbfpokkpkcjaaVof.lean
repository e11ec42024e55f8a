/- The contract of the reference's ValueOf. -/
import Derived.Test.YtblbfpokkpkcjaaHol
import Derived.Test.YtblbfpokkpkcjaaAround
namespace Go.Proofs.Ytblbfpokkpkcjaa
open Go.RowKit
set_option linter.unusedVariables false
set_option linter.unusedSimpArgs false

set_option maxRecDepth 100000 in
set_option maxHeartbeats 4000000 in
theorem valueOf_any (v : Value) (l : List Smp) (st : Bool) (t : Int) (w : World) (hR : RdS w 71 v l) (hS : Rise none l) (hlong : l.length ≤ 5000) (hr : ∀ i, i < l.length → Right (atS l i)) (ht : 0 ≤ t ∧ t ≤ 345686400000) :
    Calls Try.prog 58 #[v, .bool st, .int .i64 t] w fun e w' => e = .returned (.tuple #[pntV t (valO l st t), .bool (valO l st t).isSome]) ∧ Below w.heap.size w w' := by
  obtain ⟨pa, ca, rfl⟩ := hR.lenv
  have hdef : valO l st t = if posF l (t + 1) = 0 then none
    else if st = true ∨ (atS l (posF l (t + 1) - 1)).t = t ∨ (atS l (posF l (t + 1) - 1)).q = 2 ∨ posF l (t + 1) = l.length ∨ (atS l (posF l (t + 1))).q = 2 then
      some ⟨(atS l (posF l (t + 1) - 1)).v, 1, (atS l (posF l (t + 1) - 1)).q⟩
    else some ⟨(lineAt (atS l (posF l (t + 1) - 1)) (atS l (posF l (t + 1))) t).1, (lineAt (atS l (posF l (t + 1) - 1)) (atS l (posF l (t + 1))) t).2, if (atS l (posF l (t + 1) - 1)).q < (atS l (posF l (t + 1))).q then (atS l (posF l (t + 1))).q else (atS l (posF l (t + 1) - 1)).q⟩ := rfl
  have hk0 := VK.start w (.slice pa l.length ca) l hR
  have hps := rholds_any (.slice pa l.length ca) l t _ hk0.rd hS hlong
  have hpl := posF_le l (t + 1)
  have hpa := pos_around l (t + 1) hS
  generalize valO l st t = O at *
  generalize posF l (t + 1) = p at *
  have HDEF := Lib.hid hdef
  have HPS := Lib.hid hps
  have HK0 := Lib.hid hk0
  have HPA := Lib.hid hpa
  have HRR := Lib.hid hr
  clear hdef hps hk0 hpa hr hR hS
  go_enter Try.func58, Try.ntmps58
  go_wp2_with fail
  refine HPS.out.mono ?_
  rintro e w1 ⟨rfl, hb1⟩
  have hk := VK.step hb1 HK0.out
  clear HK0 HPS hb1
  have r0 : w1.cell? ⟨w.heap.size, 0, none⟩ = some (.int .i64 0) := hk.b.cell 0
  have r1 : w1.cell? ⟨w.heap.size, 1, none⟩ = some (.int .i64 0) := hk.b.cell 1
  have r2 : w1.cell? ⟨w.heap.size, 2, none⟩ = some (.int .i64 0) := hk.b.cell 2
  have r3 : w1.cell? ⟨w.heap.size, 3, none⟩ = some (.int .i64 0) := hk.b.cell 3
  have g0 : w1.frozen? ⟨w.heap.size, 0, none⟩ = false := hk.b.frozen 0
  have g1 : w1.frozen? ⟨w.heap.size, 1, none⟩ = false := hk.b.frozen 1
  have g2 : w1.frozen? ⟨w.heap.size, 2, none⟩ = false := hk.b.frozen 2
  have g3 : w1.frozen? ⟨w.heap.size, 3, none⟩ = false := hk.b.frozen 3
  have hz := hk.b.lt
  have hbl := hk.be
  by_cases hp0 : p = 0
  · have hO : O = none := by rw [HDEF.out, if_pos hp0]
    subst hO
    subst hp0
    go_wp2_with fail
    refine bodyPost_ret (v := .tuple #[pntV t none, .bool false]) (by simp [results, Try.results58, go_sem, r0, r1, r2, r3, pntV]) rfl ⟨rfl, ?_⟩
    exact hbl.trans (by (repeat (refine Below.setCell ?_ (by exact Nat.le_refl _) _)); exact Below.refl _ _)
  · have hp0' : decide ((p : Int) - 1 < 0) = false := by simp; omega
    have hpp : (p : Int) - 1 + 1 = (p : Int) := by omega
    have HPP := Lib.hid hpp
    clear hpp
    obtain ⟨b, off, c, hv, hc1, hc2, hblt, hcell⟩ := RdS.at_ hk.rd (by omega)
    cases hv
    unfold maxLen at hc2
    obtain ⟨c0, c1, c2⟩ := hcell (p - 1) (by omega)
    have j1 : (0 : Int) ≤ (p : Int) - 1 := by omega
    have j2 : (p : Int) - 1 < (l.length : Int) := by omega
    have j3 : ((p : Int) - 1).toNat = p - 1 := by omega
    have hz1 : w.heap.size < w1.heap.size + 1 := by omega
    have hkb : VB w (.slice (some ⟨b, off, none⟩) l.length ca) l t (atS l (p - 1)) w1.heap.size ((w1.alloc (.cells #[.int .i64 (atS l (p - 1)).t, .int .i64 (atS l (p - 1)).v, .int .i64 (atS l (p - 1)).q] 71)).alloc (.cells #[.int .i64 t, .int .i64 (atS l (p - 1)).v, .int .i64 1, .int .i64 (atS l (p - 1)).q] 86)) :=
      ⟨VK.step ((Below.refl _ _).alloc (Nat.le_refl _) _) (VK.step ((Below.refl _ _).alloc (Nat.le_refl _) _) hk), (Blk.new _ _ _).alloc _, Blk.new1 _ _ _ _⟩
    have i1 : (0 : Int) ≤ (p : Int) := by omega
    have hO1 := HDEF.out
    rw [if_neg hp0] at hO1
    have HP := Lib.hid (show atS l (p - 1) = atS l (p - 1) from rfl)
    have HO1 := Lib.hid hO1
    have hrp := HRR.out (p - 1) (by omega)
    have hrx := fun h : p < l.length => HRR.out p h
    have hlp := HPA.out.1 (p - 1) (by omega) (by omega)
    have hlx := HPA.out.2
    clear hO1 HDEF HRR HPA r0 r1 r2 r3 g0 g1 g2 g3 hcell hk
    generalize hPe : atS l (p - 1) = P at *
    generalize hXe : atS l p = X at *
    have HPE := Lib.hid hPe
    have HXE := Lib.hid hXe
    clear hPe hXe HP
    go_upto_region 6 with fail
    generalize (w1.alloc (.cells #[.int .i64 P.t, .int .i64 P.v, .int .i64 P.q] 71)).alloc (.cells #[.int .i64 t, .int .i64 P.v, .int .i64 1, .int .i64 P.q] 86) = W2 at *
    have hne : ¬ w1.heap.size = w.heap.size := by omega
    have hne2 : ¬ w1.heap.size + 1 = w.heap.size := by omega
    clear c0 c1 c2 hbl hblt hz1
    generalize w1.heap.size = n at *
    have r0 : W2.cell? ⟨w.heap.size, 0, none⟩ = some (.int .i64 0) := hkb.k.b.cell 0
    have r1 : W2.cell? ⟨w.heap.size, 1, none⟩ = some (.int .i64 0) := hkb.k.b.cell 1
    have r2 : W2.cell? ⟨w.heap.size, 2, none⟩ = some (.int .i64 0) := hkb.k.b.cell 2
    have r3 : W2.cell? ⟨w.heap.size, 3, none⟩ = some (.int .i64 0) := hkb.k.b.cell 3
    have g0 : W2.frozen? ⟨w.heap.size, 0, none⟩ = false := hkb.k.b.frozen 0
    have g1 : W2.frozen? ⟨w.heap.size, 1, none⟩ = false := hkb.k.b.frozen 1
    have g2 : W2.frozen? ⟨w.heap.size, 2, none⟩ = false := hkb.k.b.frozen 2
    have g3 : W2.frozen? ⟨w.heap.size, 3, none⟩ = false := hkb.k.b.frozen 3
    have p0 : W2.cell? ⟨n, 0, none⟩ = some (.int .i64 P.t) := hkb.p.cell 0
    have p1 : W2.cell? ⟨n, 1, none⟩ = some (.int .i64 P.v) := hkb.p.cell 1
    have p2 : W2.cell? ⟨n, 2, none⟩ = some (.int .i64 P.q) := hkb.p.cell 2
    have x0 : W2.cell? ⟨n + 1, 0, none⟩ = some (.int .i64 t) := hkb.x.cell 0
    have x1 : W2.cell? ⟨n + 1, 1, none⟩ = some (.int .i64 P.v) := hkb.x.cell 1
    have x2 : W2.cell? ⟨n + 1, 2, none⟩ = some (.int .i64 1) := hkb.x.cell 2
    have x3 : W2.cell? ⟨n + 1, 3, none⟩ = some (.int .i64 P.q) := hkb.x.cell 3
    have hbe := hkb.k.be
    by_cases hs : st = true ∨ P.t = t ∨ P.q = 2 ∨ p = l.length ∨ X.q = 2
    · have HO := Lib.hid (show O = some ⟨P.v, 1, P.q⟩ by rw [HO1.out, if_pos hs])
      have HS := Lib.hid hs
      clear hs hrx hlx hrp hlp HO1
      by_cases hq1 : P.q = 2
      · have hq1' : (P.q == 2) = true := by simpa using hq1
        clear hq1 hkb
        go_wp2_with fail
        refine bodyPost_ret (v := .tuple #[pntV t (some ⟨P.v, 1, P.q⟩), .bool true]) (by simp [results, Try.results58, go_sem, r0, r1, r2, r3, pntV]) rfl ⟨by rw [HO.out]; rfl, ?_⟩
        exact hbe.trans (by (repeat (refine Below.setCell ?_ (by exact Nat.le_refl _) _)); exact Below.refl _ _)
      · have hq1' : (P.q == 2) = false := by simpa using hq1
        cases st
        · by_cases ht1 : P.t = t
          · have ht1' : (P.t == t) = true := by simpa using ht1
            clear ht1 hq1 hkb
            go_wp2_with fail
            refine bodyPost_ret (v := .tuple #[pntV t (some ⟨P.v, 1, P.q⟩), .bool true]) (by simp [results, Try.results58, go_sem, r0, r1, r2, r3, pntV]) rfl ⟨by rw [HO.out]; rfl, ?_⟩
            exact hbe.trans (by (repeat (refine Below.setCell ?_ (by exact Nat.le_refl _) _)); exact Below.refl _ _)
          · have ht1' : (P.t == t) = false := by simpa using ht1
            by_cases hpn : p = l.length
            · have hpn' : ((p : Int) == (l.length : Int)) = true := by simp; omega
              clear ht1 hq1 hpn hkb
              go_wp2_with fail
              refine bodyPost_ret (v := .tuple #[pntV t (some ⟨P.v, 1, P.q⟩), .bool true]) (by simp [results, Try.results58, go_sem, r0, r1, r2, r3, pntV]) rfl ⟨by rw [HO.out]; rfl, ?_⟩
              exact hbe.trans (by (repeat (refine Below.setCell ?_ (by exact Nat.le_refl _) _)); exact Below.refl _ _)
            · have hpn' : ((p : Int) == (l.length : Int)) = false := by simp; omega
              have hxq : X.q = 2 := by
                rcases HS.out with h | h | h | h | h
                · cases h
                · exact absurd h ht1
                · exact absurd h hq1
                · exact absurd h hpn
                · exact h
              have hxq' : (X.q == 2) = true := by simpa using hxq
              have hplt : (p : Int) < (l.length : Int) := by omega
              have n2 : W2.cell? ⟨b, off + p * 3 + 2, none⟩ = some (.int .i64 X.q) := by rw [← HXE.out]; exact (hkb.k.rd.atv p (by omega)).2.2.1
              clear ht1 hq1 hpn hkb hxq
              go_wp2_with fail
              refine bodyPost_ret (v := .tuple #[pntV t (some ⟨P.v, 1, P.q⟩), .bool true]) (by simp [results, Try.results58, go_sem, r0, r1, r2, r3, pntV]) rfl ⟨by rw [HO.out]; rfl, ?_⟩
              exact hbe.trans (by (repeat (refine Below.setCell ?_ (by exact Nat.le_refl _) _)); exact Below.refl _ _)
        · clear hq1 hkb
          go_wp2_with fail
          refine bodyPost_ret (v := .tuple #[pntV t (some ⟨P.v, 1, P.q⟩), .bool true]) (by simp [results, Try.results58, go_sem, r0, r1, r2, r3, pntV]) rfl ⟨by rw [HO.out]; rfl, ?_⟩
          exact hbe.trans (by (repeat (refine Below.setCell ?_ (by exact Nat.le_refl _) _)); exact Below.refl _ _)
    · have hst : st = false := by
        cases st
        · rfl
        · exact absurd (.inl rfl) hs
      have ht1' : (P.t == t) = false := by simpa using fun h => hs (.inr (.inl h))
      have hq1' : (P.q == 2) = false := by simpa using fun h => hs (.inr (.inr (.inl h)))
      have hpn : ¬ p = l.length := fun h => hs (.inr (.inr (.inr (.inl h))))
      have hpn' : ((p : Int) == (l.length : Int)) = false := by simp; omega
      have hxq' : (X.q == 2) = false := by simpa using fun h => hs (.inr (.inr (.inr (.inr h))))
      have hplt : (p : Int) < (l.length : Int) := by omega
      have HO := Lib.hid (show O = some ⟨(lineAt P X t).1, (lineAt P X t).2, if P.q < X.q then X.q else P.q⟩ by rw [HO1.out, if_neg hs])
      have hlo : lineOr P X t = lineAt P X t := by unfold lineOr; rw [if_neg (by have := hlx (by omega); omega)]
      have hon := fun w => ronLine_any P X t w hrp (hrx (by omega)) (by have := hlx (by omega); omega) (by have := hlx (by omega); omega)
      rw [hlo] at hon
      have HON := Lib.hid hon
      generalize lineAt P X t = V at *
      subst hst
      obtain ⟨n0, n1, n2, hbW⟩ := hkb.k.rd.atv p (by omega)
      rw [HXE.out] at n0 n1 n2
      clear hs HO1 hrp hrx hlx hlp hpn hon hlo
      have hkx := VB.step ((Below.refl W2.heap.size W2).alloc (Nat.le_refl _) (.cells #[.int .i64 X.t, .int .i64 X.v, .int .i64 X.q] 71)) hkb
      have hbx := Blk.new W2 71 #[.int .i64 X.t, .int .i64 X.v, .int .i64 X.q]
      have hnx : n + 1 < W2.heap.size := hkb.x.lt
      go_upto_region 9 with fail
      generalize W2.alloc (.cells #[.int .i64 X.t, .int .i64 X.v, .int .i64 X.q] 71) = W3 at *
      generalize W2.heap.size = n3 at *
      clear r0 r1 r2 r3 g0 g1 g2 g3 p0 p1 p2 x0 x1 x2 x3 n0 n1 n2 hbe hkb
      have p0 : W3.cell? ⟨n, 0, none⟩ = some (.int .i64 P.t) := hkx.p.cell 0
      have p1 : W3.cell? ⟨n, 1, none⟩ = some (.int .i64 P.v) := hkx.p.cell 1
      have p2 : W3.cell? ⟨n, 2, none⟩ = some (.int .i64 P.q) := hkx.p.cell 2
      have n0 : W3.cell? ⟨n3, 0, none⟩ = some (.int .i64 X.t) := hbx.cell 0
      have n1 : W3.cell? ⟨n3, 1, none⟩ = some (.int .i64 X.v) := hbx.cell 1
      have n2 : W3.cell? ⟨n3, 2, none⟩ = some (.int .i64 X.q) := hbx.cell 2
      go_wp2_with fail
      refine (HON.out _).mono ?_
      rintro e wk ⟨rfl, hbk⟩
      have hkk := VB.step hbk hkx
      have hbxk := hbx.below hbk hbx.lt
      clear p0 p1 p2 n0 n1 n2 hbk hkx hbx
      have t0 : wk.frozen? ⟨n + 1, 1, none⟩ = false := hkk.x.frozen 1
      have t1 : wk.frozen? ⟨n + 1, 2, none⟩ = false := hkk.x.frozen 2
      have t2 : wk.cell? ⟨n + 1, 1, none⟩ = some (.int .i64 P.v) := hkk.x.cell 1
      have t3 : wk.cell? ⟨n + 1, 2, none⟩ = some (.int .i64 1) := hkk.x.cell 2
      go_upto_region 10 with fail
      have hbk := hkk.k.be
      have hsr := hkk.stored (.int .i64 V.1) (.int .i64 V.2)
      have hx3 : Blk ((wk.setCell ⟨n + 1, 1, none⟩ (.int .i64 V.1)).setCell ⟨n + 1, 2, none⟩ (.int .i64 V.2)) (n + 1) 86 #[.int .i64 t, .int .i64 V.1, .int .i64 V.2, .int .i64 P.q] := ptSet2 hkk.x _ _
      have hb3 : Blk ((wk.setCell ⟨n + 1, 1, none⟩ (.int .i64 V.1)).setCell ⟨n + 1, 2, none⟩ (.int .i64 V.2)) w.heap.size 86 #[.int .i64 0, .int .i64 0, .int .i64 0, .int .i64 0] := (hkk.k.b.setOther (by simp; omega) _).setOther (by simp; omega) _
      have hn3 : Blk ((wk.setCell ⟨n + 1, 1, none⟩ (.int .i64 V.1)).setCell ⟨n + 1, 2, none⟩ (.int .i64 V.2)) n3 71 #[.int .i64 X.t, .int .i64 X.v, .int .i64 X.q] := (hbxk.setOther (by simp; omega) _).setOther (by simp; omega) _
      have hp3 := hsr.2
      have hbe3 : Below w.heap.size w ((wk.setCell ⟨n + 1, 1, none⟩ (.int .i64 V.1)).setCell ⟨n + 1, 2, none⟩ (.int .i64 V.2)) := (hbk.setCell (by simp; omega) _).setCell (by simp; omega) _
      clear hkk t0 t1 t2 t3 hbk hsr hbxk
      generalize (wk.setCell ⟨n + 1, 1, none⟩ (.int .i64 V.1)).setCell ⟨n + 1, 2, none⟩ (.int .i64 V.2) = w5 at *
      have f3 : w5.frozen? ⟨n + 1, 3, none⟩ = false := hx3.frozen 3
      have y3 : w5.cell? ⟨n + 1, 3, none⟩ = some (.int .i64 P.q) := hx3.cell 3
      have p2 : w5.cell? ⟨n, 2, none⟩ = some (.int .i64 P.q) := hp3.cell 2
      have n2 : w5.cell? ⟨n3, 2, none⟩ = some (.int .i64 X.q) := hn3.cell 2
      go_upto_region 11 with fail
      generalize hQ : (if P.q < X.q then X.q else P.q) = Q at *
      have HQ := Lib.hid hQ
      clear hQ y3 f3 p2 n2
      have hx4 : Blk (w5.setCell ⟨n + 1, 3, none⟩ (.int .i64 Q)) (n + 1) 86 #[.int .i64 t, .int .i64 V.1, .int .i64 V.2, .int .i64 Q] := ptSet3 hx3 _
      have hb4 : Blk (w5.setCell ⟨n + 1, 3, none⟩ (.int .i64 Q)) w.heap.size 86 #[.int .i64 0, .int .i64 0, .int .i64 0, .int .i64 0] := hb3.setOther (by simp; omega) _
      have hbe4 : Below w.heap.size w (w5.setCell ⟨n + 1, 3, none⟩ (.int .i64 Q)) := hbe3.setCell (by simp; omega) _
      generalize w5.setCell ⟨n + 1, 3, none⟩ (.int .i64 Q) = w6 at *
      have y0 : w6.cell? ⟨n + 1, 0, none⟩ = some (.int .i64 t) := hx4.cell 0
      have y1 : w6.cell? ⟨n + 1, 1, none⟩ = some (.int .i64 V.1) := hx4.cell 1
      have y2 : w6.cell? ⟨n + 1, 2, none⟩ = some (.int .i64 V.2) := hx4.cell 2
      have y3 : w6.cell? ⟨n + 1, 3, none⟩ = some (.int .i64 Q) := hx4.cell 3
      have r0 : w6.cell? ⟨w.heap.size, 0, none⟩ = some (.int .i64 0) := hb4.cell 0
      have r1 : w6.cell? ⟨w.heap.size, 1, none⟩ = some (.int .i64 0) := hb4.cell 1
      have r2 : w6.cell? ⟨w.heap.size, 2, none⟩ = some (.int .i64 0) := hb4.cell 2
      have r3 : w6.cell? ⟨w.heap.size, 3, none⟩ = some (.int .i64 0) := hb4.cell 3
      have g0 : w6.frozen? ⟨w.heap.size, 0, none⟩ = false := hb4.frozen 0
      have g1 : w6.frozen? ⟨w.heap.size, 1, none⟩ = false := hb4.frozen 1
      have g2 : w6.frozen? ⟨w.heap.size, 2, none⟩ = false := hb4.frozen 2
      have g3 : w6.frozen? ⟨w.heap.size, 3, none⟩ = false := hb4.frozen 3
      go_wp2_with fail
      refine bodyPost_ret (v := .tuple #[pntV t (some ⟨V.1, V.2, Q⟩), .bool true]) (by simp [results, Try.results58, go_sem, r0, r1, r2, r3, pntV]) rfl ⟨by rw [HO.out]; rfl, ?_⟩
      exact hbe4.trans (by (repeat (refine Below.setCell ?_ (by exact Nat.le_refl _) _)); exact Below.refl _ _)
end Go.Proofs.Ytblbfpokkpkcjaa
