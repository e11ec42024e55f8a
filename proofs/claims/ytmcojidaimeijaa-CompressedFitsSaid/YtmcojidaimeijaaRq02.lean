import Derived.Test.YtmcojidaimeijaaRq01
import Derived.Test.YtmcojidaimeijaaRns
import Derived.Deep.RegionHeld3
/- runs (package alarm) as an iterator, for a right series. -/

namespace Go.Proofs.Ytmcojidaimeijaa
open Go.RowKit Go.Shelf
set_option linter.unusedVariables false
set_option linter.unusedSimpArgs false
attribute [local go_sem] Oper.semAt_some

/-- The runs of samples, as an iterator gives them. -/
def arL (x : Alm) (u : Int) (l : List Smp) : List Rn := (runL x u l).map fun y => mkRn y.1 y.2.1 y.2.2
theorem arL_cons (x : Alm) (u : Int) (s : Smp) (r : List Smp) : arL x u (s :: r) = mkRn (sayF x s) s.t (endT u (sameP x (sayF x s) r)) :: arL x u (sameP x (sayF x s) r) := by unfold arL; rw [runL_cons]; rfl
theorem arL_nil (x : Alm) (u : Int) : arL x u [] = [] := by unfold arL; rw [runL_nil]; rfl
theorem arL_len (x : Alm) (u : Int) (l : List Smp) : (arL x u l).length ≤ l.length := by unfold arL; rw [List.length_map]; exact runL_len x u _ l (Nat.le_refl _)
theorem sameP_self (x : Alm) (s : Smp) (r : List Smp) : sameP x (sayF x s) (s :: r) = sameP x (sayF x s) r := by
  unfold sameP
  rw [List.dropWhile_cons]
  simp
def slcLen : Value → Nat
  | .slice _ n _ => n
  | _ => 0
theorem sameP_tail (x : Alm) (c : Int) (r : List Smp) : r.drop (r.length - (sameP x c r).length) = sameP x c r := by
  unfold sameP
  have h : (r.takeWhile fun y => decide (sayF x y = c)) ++ (r.dropWhile fun y => decide (sayF x y = c)) = r := List.takeWhile_append_dropWhile
  generalize r.takeWhile (fun y => decide (sayF x y = c)) = a at *
  generalize r.dropWhile (fun y => decide (sayF x y = c)) = b at *
  subst h
  simp

theorem drew_belowW2 (W : World) : Below W.heap.size W W.drew := ⟨rfl, rfl, rfl, Nat.le_refl _, fun _ _ => rfl⟩
theorem blk_newAtA {W : World} {n : Nat} (h : W.heap.size = n) (t : TypeId) (cs : Array Value) : Blk (W.alloc (.cells cs t)) n t cs := by subst h; exact Blk.new _ _ _
theorem blk_setTwoA {w : World} {b : Nat} {t : TypeId} {x y : Value} (h : Blk w b t #[x, y]) (u v : Value) : Blk ((w.setCell ⟨b, 0, none⟩ u).setCell ⟨b, 1, none⟩ v) b t #[u, v] := by
  have h1 : Blk (w.setCell ⟨b, 0, none⟩ u) b t #[u, y] := by
    unfold Blk at h ⊢
    simp [World.setCell, Array.getElem?_modify, h]
  exact blk_two h1 v
theorem aruns_any (v : Value) (n c : Nat) (pa : Option Addr) (hv : v = .slice pa n c) (x : Alm) (u : Int) (w : World) :
    Calls Try.prog 125 #[.agg (almCells x), v, .int .i64 u] w fun e w' => e = .returned (.func (.func 142) #[] #[.pointer (some ⟨w.heap.size + 1, 0, none⟩), .pointer (some ⟨w.heap.size + 1 + 1, 0, none⟩), .pointer (some ⟨w.heap.size, 0, none⟩)]) ∧
      w' = ((w.alloc (.cells (almCells x) 106)).alloc (.cells #[v] 26)).alloc (.cells #[.int .i64 u] 3) := by
  subst hv
  obtain ⟨key, tag, kind, lim, dead, on, off, prio, lat, par⟩ := x
  simp only [almCells]
  go_enter Try.func125, Try.ntmps125
  go_wp2_with fail
  go_ret
  exact ⟨rfl, rfl⟩

/-- What the iterator's round has at hand. -/
structure ArK (w0 : World) (bl bu bx : Nat) (v : Value) (l : List Smp) (u : Int) (x : Alm) (W : World) : Prop where
  bl : Blk W bl 26 #[v]
  bu : Blk W bu 3 #[.int .i64 u]
  bx : Blk W bx 106 (almCells x)
  rs : RdS W 57 v l
  lo : Below w0.heap.size w0 W
section
variable {w0 W W' : World} {bl bu bx : Nat} {v : Value} {l : List Smp} {u : Int} {x : Alm}
theorem ArK.step (h : ArK w0 bl bu bx v l u x W) (hb : Below W.heap.size W W') : ArK w0 bl bu bx v l u x W' :=
  ⟨h.bl.below hb h.bl.lt, h.bu.below hb h.bu.lt, h.bx.below hb h.bx.lt, Rd.below h.rs hb, h.lo.trans (hb.mono h.lo.size)⟩
theorem ArK.kpn (h : ArK w0 bl bu bx v l u x W) (hR : RdS w0 57 v l) (hk : Kpn w0.heap.size [bl, bu, bx] W W') : ArK w0 bl bu bx v l u x W' :=
  ⟨hk.blk (by simp) h.bl, hk.blk (by simp) h.bu, hk.blk (by simp) h.bx, Rd.below hR (h.lo.trans hk.be), h.lo.trans hk.be⟩
theorem ArK.drew (h : ArK w0 bl bu bx v l u x W) : ArK w0 bl bu bx v l u x W.drew := h.step (show Below W.heap.size W W.drew from ⟨rfl, rfl, rfl, Nat.le_refl _, fun _ _ => rfl⟩)
end

set_option maxRecDepth 100000 in
set_option maxHeartbeats 4000000 in
theorem aruns1_in (n lk bl bu bx : Nat) (w0 : World) (v : Value) (l : List Smp) (u : Int) (x : Alm) (hn : 1 ≤ n) (hR : RdS w0 57 v l) (hS : serErr l = 0) (hx : AlmIn x) (hu : 0 ≤ u ∧ u ≤ 345686400000) (J Jx : List Rn → World → Prop)
    (W : World) (hJ : AbidesFrom W.heap.size J)
    (hY : ∀ pre y W, J pre W → pre.length < l.length → YieldAt Fence.wide (n - 1) Try.prog lk (encRn y) W fun e W' =>
      (e = .returned (.bool true) ∧ J (pre ++ [y]) W' ∧ Kpn w0.heap.size [bl, bu, bx] W W') ∨ (e = .returned (.bool false) ∧ Jx (pre ++ [y]) W'))
    (hK : ArK w0 bl bu bx v l u x W) (h0 : J [] W) :
    CallsIn Fence.wide n Try.prog 142 #[.func (.yield lk) #[] #[], .pointer (some ⟨bl, 0, none⟩), .pointer (some ⟨bu, 0, none⟩), .pointer (some ⟨bx, 0, none⟩)] W fun e W' => (∃ v, e = .returned v) ∧
      ((∃ ys, ys = arL x u (l.take (posF l u)) ∧ J ys W') ∨ (∃ pre, True ∧ Jx pre W')) := by
  obtain ⟨pa, ca, rfl⟩ := hR.lenv
  have hmx : Try.prog.follows .mixedOrders = true := by kernel_rfl
  have hrise := serErr_rise hS
  have hlong := (serErr_good hS).1
  have hpl := posF_le l u
  have hpi : ∀ i, i < posF l u → (atS l i).t < u := fun i hi => by
    have := posF_iff l u none hrise i (by omega)
    omega
  have HP := Lib.hid (fun w' (h : RdS w' 57 (.slice pa l.length ca) l) => position_any (.slice pa l.length ca) l u w' h hrise hlong)
  have hvt := fun i => serErr_vt hS i
  have hlt := fun i j hij hj => rise_ltA hrise i j hij hj
  obtain ⟨hca, hcm⟩ : l.length ≤ ca ∧ ca ≤ 9223372036854775807 := by
    obtain ⟨_, pa', ca', hv, h1, h2, _⟩ := hR
    cases hv
    unfold maxLen at h2
    exact ⟨h1, by omega⟩
  refine callsIn_of_wp Try.func142 rfl trivial ?_ rfl
  simp only [Try.ntmps142, List.size_toArray, List.length_cons, List.length_nil, Nat.reduceAdd, Nat.reduceSub, Array.replicate_succ, Array.replicate_zero, List.push_toArray, List.append_toArray, List.nil_append, List.cons_append]
  have c0 := hK.bl.cell 0
  have c1 := hK.bu.cell 0
  have HVT := Lib.hid hvt
  have HLT := Lib.hid hlt
  have HPI := Lib.hid hpi
  have HRISE := Lib.hid hrise
  clear hvt hlt hpi hrise
  generalize posF l u = p at *
  have q1 : (p : Int) ≤ (ca : Int) := by omega
  have q2 : (0 : Int) ≤ (p : Int) := by omega
  gi_wp2
  gi_cut [5] from 9 (fun s5 wx => s5 = .slice pa p ca ∧ ArK w0 bl bu bx (.slice pa l.length ca) l u x wx ∧ Below W.heap.size W wx)
  case first =>
    gi_region_with_o (refine ⟨trivial, ?_⟩; gi_at_call 100; refine (callsIn_wide.2 (HP.out _ (by first | exact hK.rs | exact hK.drew.rs))).mono ?_; rintro e w3 ⟨rfl, hb3⟩; have hk3 := ArK.step (by first | exact hK | exact hK.drew) hb3; have hbb3 : Below W.heap.size W w3 := (by first | exact hb3 | exact (drew_belowW2 W).trans hb3); have d0 := hk3.bl.cell 0; have d1 := hk3.bu.cell 0)
    all_goals gi_wp2
    all_goals gi_meet
    all_goals exact ⟨rfl, by first | exact hk3 | exact hk3.drew, by first | exact hbb3 | exact hbb3.drew⟩
  case rest =>
  obtain ⟨rfl, hk3, hb3⟩ := hcut
  have hj3 := hJ _ _ _ none h0 (Below.grow hb3) (fun r e => by cases e)
  have hrt : RdS w0 57 (.slice pa (l.take p).length ca) (l.take p) := by
    have h := RdS.part hR 0 p (by omega) hpl pa (fun _ b off h => by simpa using h)
    simp only [List.drop_zero, Nat.sub_zero] at h
    rwa [show (l.take p).length = p by simp; omega]
  have htl : (l.take p).length = p := by simp; omega
  have hat : ∀ i, i < p → atS (l.take p) i = atS l i := fun i hi => by
    unfold atS
    rw [List.getD_eq_getElem?_getD, List.getD_eq_getElem?_getD, List.getElem?_take_of_lt hi]
  have HAT := Lib.hid hat
  have HJ := Lib.hid hJ
  have HY := Lib.hid hY
  clear hat c0 c1 q1 q2 HP hJ hY h0 hb3 hK
  rw [← htl]
  have HTL := Lib.hid htl
  clear htl
  gi_wp2
  gi_loopw [5] (fun s5 wr => ∃ (R : List Smp) (pc : Option Addr) (cc : Nat) (pre : List Rn) (i : Nat), s5 = .slice pc R.length cc ∧ R = (l.take p).drop i ∧ RdS w0 57 (.slice pc R.length cc) R ∧ pre ++ arL x u R = arL x u (l.take p) ∧ J pre wr ∧ ArK w0 bl bu bx (.slice pa l.length ca) l u x wr) (fun s5 _ => slcLen s5)
  case atStart => exact ⟨l.take p, pa, ca, [], 0, rfl, by simp, hrt, rfl, hj3, hk3⟩
  case round =>
    clear hrt hj3 hk3
    obtain ⟨R, pc, cc, pre, i, rfl, hRi, hRd0, hpre, hj, hk⟩ := hrel
    have hRd := Rd.below hRd0 hk.lo
    have HRD0 := Lib.hid hRd0
    clear hRd0
    have hRat : ∀ j, j < R.length → i + j < p ∧ atS R j = atS l (i + j) := fun j hj => by
      have hlen : R.length = p - i := by rw [hRi, List.length_drop, HTL.out]
      refine ⟨by omega, ?_⟩
      rw [hRi, ← HAT.out (i + j) (by omega)]
      unfold atS
      rw [List.getD_eq_getElem?_getD, List.getD_eq_getElem?_getD, List.getElem?_drop]
    have hRp : R.length ≤ l.length := by rw [hRi, List.length_drop, HTL.out]; omega
    have HRI := Lib.hid hRi
    have HRAT := Lib.hid hRat
    have HPRE := Lib.hid hpre
    clear hRi hRat hpre
    cases R with
    | nil =>
      have HE := Lib.hid (show pre = arL x u (l.take p) by rw [← HPRE.out, arL_nil, List.append_nil])
      gi_wp2
      go_end0
      refine ⟨⟨_, rfl⟩, .inl ⟨_, HE.out, hj⟩⟩
    | cons s r =>
      obtain ⟨b, off, c', hv, hc1, hc2, hblt, hcell⟩ := RdS.at_ hRd (by simp)
      simp only [Value.slice.injEq, true_and] at hv
      obtain ⟨rfl, rfl⟩ := hv
      unfold maxLen at hc2
      have hs0 : atS (s :: r) 0 = s := rfl
      have ha0 := HRAT.out 0 (by simp)
      rw [hs0, Nat.add_zero] at ha0
      have hvs := HVT.out i
      rw [← ha0.2] at hvs
      have hst : s.t < u := by rw [ha0.2]; exact HPI.out i ha0.1
      obtain ⟨e0, e1, e2⟩ := hcell 0 (by simp)
      rw [hs0] at e0 e1 e2
      simp only [Nat.zero_mul, Nat.add_zero] at e0 e1 e2
      have HCELL := Lib.hid hcell
      have HSY := Lib.hid (fun W => says_any x s W hx hvs.1)
      have HRD := Lib.hid hRd
      have HA0 := Lib.hid ha0
      have bX := hk.bx
      have bU := hk.bu
      have d0 : wr.cell? ⟨bu, 0, none⟩ = some (.int .i64 u) := bU.cell 0
      clear hcell ha0 hs0 hRd
      obtain ⟨key, tag, kind, lim, dead, on, of, prio, lat, par⟩ := x
      simp only [almCells] at HSY bX
      have a0 := bX.cell 0
      have a1 := bX.cell 1
      have a2 := bX.cell 2
      have a3 := bX.cell 3
      have a4 := bX.cell 4
      have a5 := bX.cell 5
      have a6 := bX.cell 6
      have a7 := bX.cell 7
      have a8 := bX.cell 8
      have a9 := bX.cell 9
      have hbl := hk.bx.lt
      have hul := hk.bu.lt
      gi_wp2
      gi_cut [6, 7] from 17 (fun s6 s7 wx => ∃ b6 b7, s6 = .pointer (some ⟨b6, 0, none⟩) ∧ s7 = .pointer (some ⟨b7, 0, none⟩) ∧ wr.heap.size ≤ b6 ∧ wr.heap.size ≤ b7 ∧ b6 ≠ b7 ∧ Blk wx b6 3 #[.int .i64 (sayF ⟨key, tag, kind, lim, dead, on, of, prio, lat, par⟩ s)] ∧ Blk wx b7 43 #[.int .i64 s.t, .int .i64 u] ∧ Below wr.heap.size wr wx)
      case first =>
        refine wpIn_wide.2 ?_
        have hbd := drew_belowW2 wr
        have HSB := Lib.hid (show ∀ W : World, Below wr.heap.size wr W → (W.cell? ⟨bx, 0, none⟩ = some (.string key) ∧ W.cell? ⟨bx, 1, none⟩ = some (.string tag) ∧ W.cell? ⟨bx, 2, none⟩ = some (.int .i64 kind) ∧ W.cell? ⟨bx, 3, none⟩ = some (.int .i64 lim) ∧ W.cell? ⟨bx, 4, none⟩ = some (.int .i64 dead) ∧ W.cell? ⟨bx, 5, none⟩ = some (.int .i64 on) ∧ W.cell? ⟨bx, 6, none⟩ = some (.int .i64 of) ∧ W.cell? ⟨bx, 7, none⟩ = some (.int .i64 prio) ∧ W.cell? ⟨bx, 8, none⟩ = some (.bool lat) ∧ W.cell? ⟨bx, 9, none⟩ = some (.string par) ∧ W.cell? ⟨b, off, none⟩ = some (.int .i64 s.t) ∧ W.cell? ⟨b, off + 1, none⟩ = some (.int .i64 s.v) ∧ W.cell? ⟨b, off + 2, none⟩ = some (.int .i64 s.q) ∧ W.cell? ⟨bu, 0, none⟩ = some (.int .i64 u)) from fun W hb =>
          ⟨(hb.cell (p := ⟨bx, 0, none⟩) hbl).trans a0, (hb.cell (p := ⟨bx, 1, none⟩) hbl).trans a1, (hb.cell (p := ⟨bx, 2, none⟩) hbl).trans a2, (hb.cell (p := ⟨bx, 3, none⟩) hbl).trans a3, (hb.cell (p := ⟨bx, 4, none⟩) hbl).trans a4, (hb.cell (p := ⟨bx, 5, none⟩) hbl).trans a5, (hb.cell (p := ⟨bx, 6, none⟩) hbl).trans a6, (hb.cell (p := ⟨bx, 7, none⟩) hbl).trans a7, (hb.cell (p := ⟨bx, 8, none⟩) hbl).trans a8, (hb.cell (p := ⟨bx, 9, none⟩) hbl).trans a9, (hb.cell (p := ⟨b, off, none⟩) hblt).trans e0, (hb.cell (p := ⟨b, off + 1, none⟩) hblt).trans e1, (hb.cell (p := ⟨b, off + 2, none⟩) hblt).trans e2, (hb.cell (p := ⟨bu, 0, none⟩) hul).trans d0⟩)
        go_region_held3 (fun W => W.cell? ⟨bx, 0, none⟩ = some (.string key) ∧ W.cell? ⟨bx, 1, none⟩ = some (.string tag) ∧ W.cell? ⟨bx, 2, none⟩ = some (.int .i64 kind) ∧ W.cell? ⟨bx, 3, none⟩ = some (.int .i64 lim) ∧ W.cell? ⟨bx, 4, none⟩ = some (.int .i64 dead) ∧ W.cell? ⟨bx, 5, none⟩ = some (.int .i64 on) ∧ W.cell? ⟨bx, 6, none⟩ = some (.int .i64 of) ∧ W.cell? ⟨bx, 7, none⟩ = some (.int .i64 prio) ∧ W.cell? ⟨bx, 8, none⟩ = some (.bool lat) ∧ W.cell? ⟨bx, 9, none⟩ = some (.string par) ∧ W.cell? ⟨b, off, none⟩ = some (.int .i64 s.t) ∧ W.cell? ⟨b, off + 1, none⟩ = some (.int .i64 s.v) ∧ W.cell? ⟨b, off + 2, none⟩ = some (.int .i64 s.q) ∧ W.cell? ⟨bu, 0, none⟩ = some (.int .i64 u))
          (first | with_reducible exact HSB.out _ hbw | with_reducible exact HSB.out _ hbd | exact HSB.out _ (hbd.alloc (Nat.le_refl _) _) | exact HSB.out _ ((hbd.alloc (Nat.le_refl _) _).alloc (by simp) _) | exact HSB.out _ (hbw.alloc hszw _) | exact HSB.out _ ((hbw.alloc hszw _).alloc (by simp; omega) _) | exact HSB.out _ (hbw.setCell (by simp) _) | exact HSB.out _ ((hbw.setCell (by simp) _).setCell (by simp) _) | exact HSB.out _ (((hbw.setCell (by simp) _).setCell (by simp) _).setCell (by simp) _) | exact HSB.out _ ((hbw.setCell (by simp) _).alloc (by simp; omega) _) | exact HSB.out _ (((hbw.setCell (by simp) _).setCell (by simp) _).alloc (by simp; omega) _) | exact HSB.out _ ((hbw.alloc hszw _).setCell (by simp) _) | exact HSB.out _ (((hbw.alloc hszw _).setCell (by simp) _).setCell (by simp) _) | exact HSB.out _ ((hbw.alloc hszw _).setCell (by simp; omega) _) | exact HSB.out _ (((hbw.alloc hszw _).setCell (by simp; omega) _).setCell (by simp; omega) _) | go_keep)
          (first
          | (go_at_call 143; (with_reducible refine (HSY.out _).mono ?_); rintro e w3 ⟨rfl, hb3⟩; have hbw : Below wr.heap.size wr w3 := (by first | exact hb3 | exact (drew_belowW2 wr).trans hb3 | exact ((drew_belowW2 wr).alloc (Nat.le_refl _) _).trans (hb3.mono (by simp)) | exact (((drew_belowW2 wr).alloc (Nat.le_refl _) _).alloc (by simp) _).trans (hb3.mono (by simp; omega))); have hszw := hbw.size;
              (try have g6 : Blk w3 wr.heap.size 3 #[.int .i64 0] := (Blk.new wr.drew _ _).below hb3 (by simp));
              (try have g6 : Blk w3 wr.heap.size 3 #[.int .i64 0] := ((Blk.new wr.drew _ _).alloc _).below hb3 (by simp; omega));
              (try have g7 : Blk w3 wr.heap.size 43 #[.int .i64 0, .int .i64 0] := (Blk.new wr.drew _ _).below hb3 (by simp));
              (try have g7 : Blk w3 wr.heap.size 43 #[.int .i64 0, .int .i64 0] := ((Blk.new wr.drew _ _).alloc _).below hb3 (by simp; omega));
              (try have g7 : Blk w3 (wr.heap.size + 1) 43 #[.int .i64 0, .int .i64 0] := (Blk.new1 wr.drew _ _ _).below hb3 (by simp));
              (try have g6 : Blk w3 (wr.heap.size + 1) 3 #[.int .i64 0] := (Blk.new1 wr.drew _ _ _).below hb3 (by simp));
              (try have i6 := g6.cell 0); (try have j6 := g6.frozen 0); (try have i7 := g7.cell 0); (try have j7 := g7.frozen 0); (try have k7 := g7.cell 1); (try have l7 := g7.frozen 1); (try have m6 := g6.lt); (try have m7 := g7.lt); clear hb3))
        all_goals go_wp2_with fail
        all_goals go_meet
        all_goals refine ⟨_, _, rfl, rfl, ?_, ?_, ?_, ?_, ?_, ?_⟩
        all_goals first
          | omega
          | (with_reducible exact (Blk.new _ _ _).alloc _)
          | (with_reducible exact Blk.new1 _ _ _ _)
          | (with_reducible exact (g6.setOne _).alloc _)
          | (with_reducible exact ((g6.setOne _).setOther (by simp) _).setOther (by simp) _)
          | (with_reducible exact blk_newAtA (by simp) _ _)
          | (with_reducible exact (blk_setTwoA g7 _ _).alloc _)
          | (with_reducible exact blk_setTwoA (g7.setOther (by simp) _) _ _)
          | (with_reducible exact (hbw.alloc hszw _).alloc (by simp; omega) _)
          | (with_reducible exact (hbw.setCell (by simp) _).alloc (by simp; omega) _)
          | (with_reducible exact ((hbw.setCell (by simp) _).setCell (by simp) _).alloc (by simp; omega) _)
          | (with_reducible exact ((hbw.setCell (by simp) _).setCell (by simp) _).setCell (by simp) _)
      case rest =>
      obtain ⟨b6, b7, rfl, rfl, hb6, hb7, hne, g6, g7, hbx⟩ := hcut
      clear a0 a1 a2 a3 a4 a5 a6 a7 a8 a9 e0 e1 e2 d0 bX bU hbl hul hblt
      have hk6 := hk.step hbx
      have hrd6 := Rd.below HRD.out hbx
      have hRl : ∀ j, j < (s :: r).length → -1000000 ≤ (atS (s :: r) j).v ∧ (atS (s :: r) j).v ≤ 1000000 := fun j hj => by rw [(HRAT.out j hj).2]; exact (HVT.out (i + j)).1
      have hidx := indexA_any _ _ bx b6 _ (s :: r) wc hrd6 (by omega) hx hRl hk6.bx g6
      have hD0 : sameP ⟨key, tag, kind, lim, dead, on, of, prio, lat, par⟩ (sayF ⟨key, tag, kind, lim, dead, on, of, prio, lat, par⟩ s) (s :: r) = sameP ⟨key, tag, kind, lim, dead, on, of, prio, lat, par⟩ (sayF ⟨key, tag, kind, lim, dead, on, of, prio, lat, par⟩ s) r := sameP_self _ s r
      have hDl := sameP_len ⟨key, tag, kind, lim, dead, on, of, prio, lat, par⟩ (sayF ⟨key, tag, kind, lim, dead, on, of, prio, lat, par⟩ s) r
      have hDd := sameP_tail ⟨key, tag, kind, lim, dead, on, of, prio, lat, par⟩ (sayF ⟨key, tag, kind, lim, dead, on, of, prio, lat, par⟩ s) (s :: r)
      have hcons := arL_cons ⟨key, tag, kind, lim, dead, on, of, prio, lat, par⟩ u s r
      have hI : idxP ⟨key, tag, kind, lim, dead, on, of, prio, lat, par⟩ (sayF ⟨key, tag, kind, lim, dead, on, of, prio, lat, par⟩ s) (s :: r) = if sameP ⟨key, tag, kind, lim, dead, on, of, prio, lat, par⟩ (sayF ⟨key, tag, kind, lim, dead, on, of, prio, lat, par⟩ s) (s :: r) = [] then -1 else ((s :: r).length : Int) - ((sameP ⟨key, tag, kind, lim, dead, on, of, prio, lat, par⟩ (sayF ⟨key, tag, kind, lim, dead, on, of, prio, lat, par⟩ s) (s :: r)).length : Int) := rfl
      have hcr := sayF_range ⟨key, tag, kind, lim, dead, on, of, prio, lat, par⟩ s
      rw [hD0] at hDd hI
      generalize sameP ⟨key, tag, kind, lim, dead, on, of, prio, lat, par⟩ (sayF ⟨key, tag, kind, lim, dead, on, of, prio, lat, par⟩ s) r = D at *
      generalize idxP ⟨key, tag, kind, lim, dead, on, of, prio, lat, par⟩ (sayF ⟨key, tag, kind, lim, dead, on, of, prio, lat, par⟩ s) (s :: r) = I at *
      generalize sayF ⟨key, tag, kind, lim, dead, on, of, prio, lat, par⟩ s = c at *
      have HI := Lib.hid hI
      have HDD := Lib.hid hDd
      have HCONS := Lib.hid hcons
      clear hI hDd hcons hD0 hRl HSY
      gi_upto_if 32 with (refine ⟨trivial, ?_⟩; gi_at_call 144; refine (callsIn_wide.2 hidx).mono ?_; clear hidx; rintro e w4 ⟨rfl, hb4⟩)
      have hrd4 := Rd.below hrd6 hb4
      have g64 := g6.below hb4 g6.lt
      have g74 := g7.below hb4 g7.lt
      have hbx4 := hbx.trans (hb4.mono hbx.size)
      clear hk6 hrd6 hb4 g6 g7 hbx
      obtain ⟨m, hm⟩ : ∃ m : Nat, (s :: r).length - D.length = m := ⟨_, rfl⟩
      have hm1 : 1 ≤ m ∧ m ≤ r.length + 1 ∧ m + D.length = r.length + 1 := by simp only [List.length_cons] at hm; omega
      rw [hm] at HDD
      have HM := Lib.hid hm
      clear hm
      gi_cut [8] from 31 (fun s8 wx => s8 = .int .i64 (m : Int) ∧ Blk wx b6 3 #[.int .i64 c] ∧ Blk wx b7 43 #[.int .i64 s.t, .int .i64 (endT u D)] ∧ Below wr.heap.size wr wx)
      case first =>
        refine wpIn_wide.2 ?_
        cases D with
        | nil =>
          have hI2 := HI.out
          rw [if_pos rfl] at hI2
          have hneg : I < 0 := by omega
          have hE : m = r.length + 1 := by simpa using hm1.2.2
          have HE := Lib.hid hE
          clear hI2 hE
          go_wp2_with fail
          go_meet
          exact ⟨by rw [HE.out]; rfl, g64, g74, hbx4⟩
        | cons y D' =>
          have hI2 := HI.out
          rw [if_neg (by simp)] at hI2
          have hpos : ¬ I < 0 := by simp only [List.length_cons] at hI2 hDl; omega
          obtain rfl : I = (m : Int) := by simp only [List.length_cons] at hI2 hm1; omega
          have hmr : m < (s :: r).length := by simp only [List.length_cons] at hm1 ⊢; omega
          have hym : atS (s :: r) m = y := by
            unfold atS
            have h := congrArg List.head? HDD.out
            rw [List.head?_drop] at h
            rw [List.getD_eq_getElem?_getD, h]
            rfl
          obtain ⟨b', off', c', hv, hc1', hc2', hbl', hcell⟩ := RdS.at_ hrd4 (by simp)
          cases hv
          obtain ⟨k0, k1, k2⟩ := hcell m hmr
          rw [hym] at k0
          have f1 := g74.frozen 1
          have w1 := g74.cell 1
          have hmi : (m : Int) < ((s :: r).length : Int) := by omega
          have hmi2 : (m : Int) < (r.length : Int) + 1 := by simp only [List.length_cons] at hmr; omega
          clear hI2 hcell hym k1 k2 hc2'
          go_wp2_with fail
          go_meet
          exact ⟨rfl, g64.setOther (by simpa using hne) _, blk_two g74 _, hbx4.setCell (by simpa using hb7) _⟩
      case rest =>
      obtain ⟨rfl, g65, g75, hbx5⟩ := hcut
      have hk7 := hk.step hbx5
      have hj5 := HJ.out _ _ _ none hj (Below.grow hbx5) (fun r e => by cases e)
      have hsl : pre.length < l.length := by
        have h := congrArg List.length HPRE.out
        rw [List.length_append, HCONS.out, List.length_cons] at h
        have h2 := arL_len ⟨key, tag, kind, lim, dead, on, of, prio, lat, par⟩ u (l.take p)
        rw [HTL.out] at h2
        omega
      have hend : s.t < endT u D ∧ endT u D ≤ u := by
        cases hDc : D with
        | nil => exact ⟨hst, Int.le_refl _⟩
        | cons y D' =>
          have hmr : m < (s :: r).length := by rw [hDc] at hm1; simp only [List.length_cons] at hm1 ⊢; omega
          have hym : atS (s :: r) m = y := by
            unfold atS
            have h := congrArg List.head? HDD.out
            rw [List.head?_drop, hDc] at h
            rw [List.getD_eq_getElem?_getD, h]
            rfl
          obtain ⟨h1, h2⟩ := HRAT.out m hmr
          rw [hym] at h2
          obtain ⟨h3, h4⟩ := HA0.out
          have h5 := HLT.out i (i + m) (by omega) (by omega)
          have h6 := HPI.out (i + m) h1
          rw [← h2] at h5 h6
          rw [← h4] at h5
          exact ⟨h5, Int.le_of_lt h6⟩
      have hmk := mkRn_eq (v := c) (a := s.t) (b := endT u D) ⟨by omega, by omega, hend.1, by omega⟩
      generalize hz : mkRn c s.t (endT u D) = z at *
      obtain ⟨fn, tmps, assign, body, hy, hR3⟩ := HY.out _ z wc hj5 hsl
      rw [show encRn z = #[.int .i64 c, .agg #[.int .i64 s.t, .int .i64 (endT u D)]] from by unfold encRn; rw [hmk]] at hy
      have l0 := g65.cell 0
      have l1 := g75.cell 0
      have l2 := g75.cell 1
      generalize endT u D = eT at *
      have hrd5 := Rd.below HRD.out hbx5
      clear hbx5 hj5 hsl hend hj hk hz hmk
      have hb1 : (m : Int) ≤ (r.length : Int) + 1 := by omega
      have hb2 : (m : Int) ≤ (cc : Int) := by simp only [List.length_cons] at hc1; omega
      have HDL := Lib.hid (show r.length + 1 - m = D.length by omega)
      have hsd : (s :: r).length = r.length + 1 := rfl
      have HCA := Lib.hid (show m = cc → D.length = 0 from fun h => by rw [hsd] at hc1; omega)
      clear hsd
      gi_wp2
      refine hR3.mono ?_
      rintro e W3 (⟨rfl, hJ3, hk3⟩ | ⟨rfl, hJx3⟩)
      · have hk8 := hk7.kpn hR hk3
        have hrd8 : RdS W3 57 (.slice (some ⟨b, off, none⟩) (s :: r).length cc) (s :: r) := by
          exact Rd.below HRD0.out hk8.lo
        have HPR := Lib.hid (show (pre ++ [z]) ++ arL ⟨key, tag, kind, lim, dead, on, of, prio, lat, par⟩ u D = arL ⟨key, tag, kind, lim, dead, on, of, prio, lat, par⟩ u (l.take p) by rw [← HPRE.out, HCONS.out, List.append_assoc]; rfl)
        have HRI2 := Lib.hid (show D = (l.take p).drop (i + m) by rw [← HDD.out, HRI.out, List.drop_drop])
        by_cases hcm : cc = m
        · subst hcm
          have hD0 := HCA.out rfl
          gi_wp2
          go_roundw
          case rel => exact ⟨D, some ⟨b, off, none⟩, 0, pre ++ [z], i + cc, by first | (rw [← HDL.out]; done) | (rw [← HDL.out]; simp), HRI2.out, by rw [List.eq_nil_of_length_eq_zero hD0]; exact ⟨by simp, _, _, rfl, Nat.le_refl _, by simp [maxLen], fun h => absurd h (by simp)⟩, HPR.out, hJ3, hk8⟩
          case measure => simp [slcLen]; omega
        · have hpt := RdS.part HRD0.out m (r.length + 1) (by omega) (by simp) (some ⟨b, off + m * 3, none⟩) (fun _ b0 off0 h => by cases h; rfl)
          rw [List.take_of_length_le (by rw [List.length_drop]; exact Nat.le_refl _), HDD.out] at hpt
          have HPT := Lib.hid hpt
          clear hpt
          gi_wp2
          go_roundw
          case rel => exact ⟨D, some ⟨b, off + m * 3, none⟩, cc - m, pre ++ [z], i + m, by rw [← HDL.out], HRI2.out, by rw [← HDL.out]; exact HPT.out, HPR.out, hJ3, hk8⟩
          case measure => simp [slcLen]; omega
      · gi_wp2
        refine bodyPost_ret (results_none rfl _ _ _) rfl ?_
        exact ⟨⟨_, rfl⟩, .inr ⟨_, trivial, hJx3⟩⟩

theorem aruns_stops (n bl bu bx : Nat) (w0 : World) (v : Value) (l : List Smp) (u : Int) (x : Alm) (hn : 1 ≤ n) (hR : RdS w0 57 v l) (hS : serErr l = 0) (hx : AlmIn x) (hu : 0 ≤ u ∧ u ≤ 345686400000) (w : World) (hK : ArK w0 bl bu bx v l u x w) :
    SeqStopsK Fence.wide n Try.prog 142 #[.pointer (some ⟨bl, 0, none⟩), .pointer (some ⟨bu, 0, none⟩), .pointer (some ⟨bx, 0, none⟩)] encRn (Kpn w0.heap.size [bl, bu, bx]) (fun ys => ys = arL x u (l.take (posF l u))) (fun _ => True) l.length w :=
  fun lk J Jx W hb hJ _ hY h0 => aruns1_in n lk bl bu bx w0 v l u x hn hR hS hx hu J Jx W hJ hY (hK.step hb) h0
end Go.Proofs.Ytmcojidaimeijaa
