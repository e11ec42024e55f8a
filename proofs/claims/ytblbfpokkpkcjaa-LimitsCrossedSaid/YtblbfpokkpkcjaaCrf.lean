/- The contract of the reference's CrossingsOf. -/
import Derived.Test.YtblbfpokkpkcjaaCrn
import Derived.Test.YtblbfpokkpkcjaaCrc
import Derived.Test.YtblbfpokkpkcjaaCmq
import Derived.Test.YtblbfpokkpkcjaaAround
namespace Go.Proofs.Ytblbfpokkpkcjaa
open Go.RowKit
set_option linter.unusedVariables false
set_option linter.unusedSimpArgs false

/-- What the loops keep: the window, the series, the limit. -/
structure KO (w0 : World) (v : Value) (l : List Smp) (f t L : Int) (w : World) : Prop where
  k : KW w0 v l f t w
  b : Blk w (w0.heap.size + 1) 3 #[.int .i64 L]
section
variable {w0 w w' : World} {v : Value} {l : List Smp} {f t L : Int}
theorem KO.step (hb : Below w.heap.size w w') (h : KO w0 v l f t L w) : KO w0 v l f t L w' := ⟨KW.step hb h.k, h.b.below hb h.b.lt⟩
theorem KO.start (hR : RdS w 71 v l) : KO w v l f t L ((w.alloc (.cells #[.int .i64 f, .int .i64 t] 82)).alloc (.cells #[.int .i64 L] 3)) := ⟨(KW.start hR).alloc _, Blk.new1 _ _ _ _⟩
end
theorem dif_comm (a b : Int) : dif a b = dif b a := by unfold dif; split <;> split <;> omega
theorem opp_cmp (L : Int) (a b : Smp) : decide (0 ≤ cmpI a.v L * cmpI b.v L) = !opp L a b := by
  unfold opp cmpI
  by_cases h1 : a.v < L <;> by_cases h2 : L < a.v <;> by_cases h3 : b.v < L <;> by_cases h4 : L < b.v <;> first | (exfalso; omega) | simp [h1, h2, h3, h4]
theorem cmpI_bound (a b : Int) : -1 ≤ cmpI a b ∧ cmpI a b ≤ 1 := by unfold cmpI; split <;> (try split) <;> omega
theorem rowF_length {L f t : Int} {l : List Smp} {i : Nat} (m : Nat) : (rowF L f t l i m).length ≤ m := by
  induction m with
  | zero => simp [rowF]
  | succ m ih =>
    unfold rowF
    have : (if i < m then crs L f t l i m else []).length ≤ 1 := by
      split
      · unfold crs; split <;> simp
      · simp
    rw [List.length_append]; omega
theorem allF_length {L f t : Int} {l : List Smp} {n : Nat} (i : Nat) : (allF L f t l n i).length ≤ i * n := by
  induction i with
  | zero => simp [allF]
  | succ i ih =>
    unfold allF
    have := rowF_length (L := L) (f := f) (t := t) (l := l) (i := i) n
    rw [List.length_append, Nat.succ_mul]; omega
theorem rowF_succ {L f t : Int} {l : List Smp} {i m : Nat} (h : i < m) : rowF L f t l i (m + 1) = rowF L f t l i m ++ crs L f t l i m := by
  conv => lhs; unfold rowF
  rw [if_pos h]
theorem crs_nil {L f t : Int} {l : List Smp} {i k : Nat} (h : crC L l i k = false) : crs L f t l i k = [] := by
  unfold crs; rw [if_neg]; rw [h]; simp
theorem crs_one {L f t : Int} {l : List Smp} {i k : Nat} (h : crC L l i k = true) : crs L f t l i k = if insB f t (crT L l i k) = true then [crT L l i k] else [] := by
  unfold crs; rw [h]; simp
/-- The boxes of a round: both samples. -/
structure KY (w0 : World) (v : Value) (l : List Smp) (f t L : Int) (nx ny : Nat) (x y : Smp) (w : World) : Prop where
  o : KO w0 v l f t L w
  x : Blk w nx 71 #[.int .i64 x.t, .int .i64 x.v, .int .i64 x.q]
  y : Blk w ny 71 #[.int .i64 y.t, .int .i64 y.v, .int .i64 y.q]
theorem KY.step {w0 w w' : World} {v : Value} {l : List Smp} {f t L : Int} {nx ny : Nat} {x y : Smp} (hb : Below w.heap.size w w') (h : KY w0 v l f t L nx ny x y w) : KY w0 v l f t L nx ny x y w' :=
  ⟨KO.step hb h.o, h.x.below hb h.x.lt, h.y.below hb h.y.lt⟩

/-- And the box of the time. -/
structure KZ (w0 : World) (v : Value) (l : List Smp) (f t L : Int) (nx ny n13 : Nat) (x y z : Smp) (w : World) : Prop where
  y : KY w0 v l f t L nx ny x y w
  z : Blk w n13 57 #[.int .i64 z.t, .int .i64 1]
theorem KZ.step {w0 w w' : World} {v : Value} {l : List Smp} {f t L : Int} {nx ny n13 : Nat} {x y z : Smp} (hb : Below w.heap.size w w') (h : KZ w0 v l f t L nx ny n13 x y z w) : KZ w0 v l f t L nx ny n13 x y z w' :=
  ⟨KY.step hb h.y, h.z.below hb h.z.lt⟩
theorem KZ.drew {w0 w : World} {v : Value} {l : List Smp} {f t L : Int} {nx ny n13 : Nat} {x y z : Smp} (h : KZ w0 v l f t L nx ny n13 x y z w) : KZ w0 v l f t L nx ny n13 x y z w.drew :=
  KZ.step (show Below w.heap.size w w.drew from ⟨rfl, rfl, rfl, Nat.le_refl _, fun _ _ => rfl⟩) h
theorem KZ.stored {w0 w : World} {v : Value} {l : List Smp} {f t L : Int} {nx ny n13 : Nat} {x y z : Smp} (h : KZ w0 v l f t L nx ny n13 x y z w) (u u' : Value) (hx : nx ≠ n13) (hy : ny ≠ n13) (hw0 : w0.heap.size + 1 ≠ n13) :
    Blk ((w.setCell ⟨n13, 0, none⟩ u).setCell ⟨n13, 1, none⟩ u') nx 71 #[.int .i64 x.t, .int .i64 x.v, .int .i64 x.q] ∧ Blk ((w.setCell ⟨n13, 0, none⟩ u).setCell ⟨n13, 1, none⟩ u') ny 71 #[.int .i64 y.t, .int .i64 y.v, .int .i64 y.q] ∧ Blk ((w.setCell ⟨n13, 0, none⟩ u).setCell ⟨n13, 1, none⟩ u') (w0.heap.size + 1) 3 #[.int .i64 L] :=
  ⟨(h.y.x.setOther hx _).setOther hx _, (h.y.y.setOther hy _).setOther hy _, (h.y.o.b.setOther hw0 _).setOther hw0 _⟩
theorem KZ.win {w0 w : World} {v : Value} {l : List Smp} {f t L : Int} {nx ny n13 : Nat} {x y z : Smp} (h : KZ w0 v l f t L nx ny n13 x y z w) (u u' : Value) (hw0 : w0.heap.size ≠ n13) :
    Blk ((w.setCell ⟨n13, 0, none⟩ u).setCell ⟨n13, 1, none⟩ u') w0.heap.size 82 #[.int .i64 f, .int .i64 t] ∧ Blk ((w.setCell ⟨n13, 0, none⟩ u).setCell ⟨n13, 1, none⟩ u') n13 57 #[u, u'] := by
  refine ⟨(h.y.o.k.bw.setOther hw0 _).setOther hw0 _, ?_⟩
  have hz := h.z
  unfold Blk at hz ⊢
  simp [World.setCell, Array.getElem?_modify, hz]
theorem own_set {w : World} {base size n m i : Nat} {v : Value} {e : TypeId} {xs : List Value} (h : w.ownsRow base e size v n xs) (hb : ∀ b, v.ownBlock = some b → b < m) (u : Value) : (w.setCell ⟨m, i, none⟩ u).ownsRow base e size v n xs := by
  obtain ⟨h1, h2⟩ := h
  refine ⟨h1, ?_⟩
  rcases h2 with h2 | ⟨g, cap, cur, rfl, hbg, hh, hn, hm, hs, hx⟩
  · exact .inl h2
  · have hg := hb g rfl
    exact .inr ⟨g, cap, cur, rfl, hbg, (Below.heap_setCell _ _ _ _ (by simp; omega)).trans hh, hn, hm, hs, hx⟩

set_option maxRecDepth 100000 in
set_option maxHeartbeats 8000000 in
theorem crossingsOf_any (v : Value) (l : List Smp) (f t L : Int) (w : World) (hR : RdS w 71 v l) (hlong : l.length ≤ 5000) (hrise : Rise none l) (hright : ∀ i, i < l.length → Right (atS l i)) (hLL : -1000000 ≤ L ∧ L ≤ 1000000) (hW : 0 ≤ f ∧ f ≤ t ∧ t ≤ 345686400000) :
    Calls Try.prog 67 #[v, .agg #[.int .i64 f, .int .i64 t], .int .i64 L] w fun e w' => ∃ vr, e = .returned vr ∧ RdF w' vr (outF L f t l l.length) ∧ Below w.heap.size w w' := by
  have hout := out_all (L := L) (f := f) (t := t) (l := l) l.length (Nat.le_refl _)
  rw [hout]
  obtain ⟨pa, ca, rfl⟩ := hR.lenv
  obtain ⟨hca, hcm⟩ : l.length ≤ ca ∧ ca ≤ 9223372036854775807 := by
    obtain ⟨_, pa', ca', hv, h1, h2, _⟩ := hR
    simp only [Value.slice.injEq, true_and] at hv
    obtain ⟨rfl, rfl⟩ := hv
    unfold maxLen at h2
    exact ⟨h1, by omega⟩
  have hk0 := KO.start (f := f) (t := t) (L := L) hR
  have HK0 := Lib.hid hk0
  have HRT := Lib.hid hright
  have HRISE := Lib.hid hrise
  have hmf : ∀ (fn : Fn) (first cap : Array Value) (w : World), (Instr.makeFunc fn first cap).run Try.prog w = .ok (.func fn first cap) w := fun _ _ _ _ => rfl
  clear hR hk0 hout hright hrise
  go_enter Try.func67, Try.ntmps67
  go_upto_region 1 with fail
  generalize (w.alloc (.cells #[.int .i64 f, .int .i64 t] 82)).alloc (.cells #[.int .i64 L] 3) = w1 at *
  have hlt1 := HK0.out.b.lt
  go_wp2_with fail
  go_loopw [7, 17] (fun st si wr => ∃ (i : Nat) (vt : Value), vt = st ∧ i ≤ l.length ∧ si = .int .i64 (i : Int) ∧ wr.ownsRow w1.heap.size 57 2 vt (allF L f t l l.length i).length (fracCells (allF L f t l l.length i)) ∧ Below w1.heap.size w1 wr) (fun _ i _ => l.length - (intOf i).toNat)
  case atStart => exact ⟨0, _, rfl, by omega, rfl, World.ownsRow_nil _ _ _ _, Below.refl _ _⟩
  case round =>
    obtain ⟨wo, rfl⟩ : ∃ wo : World, wo = wr := ⟨_, rfl⟩
    obtain ⟨i, vt, rfl, hi, rfl, hown, hbr⟩ := hrel
    have HST := Lib.hid (show allF L f t l l.length (i + 1) = allF L f t l l.length i ++ rowF L f t l i l.length from rfl)
    by_cases hlt : i < l.length
    · have hr0 := rowF_small (L := L) (f := f) (t := t) (l := l) (i := i) (i + 1) (Nat.le_refl _)
      have HR0 := Lib.hid hr0
      have hla : (allF L f t l l.length i).length ≤ 5000 * 5000 := Nat.le_trans (allF_length i) (Nat.mul_le_mul (by omega) hlong)
      generalize allF L f t l l.length i = AL at *
      clear hr0
      go_wp2_with fail
      go_loopw [7, 9] (fun st sk wr => ∃ (k : Nat) (vt : Value), vt = st ∧ i + 1 ≤ k ∧ k ≤ l.length ∧ sk = .int .i64 (k : Int) ∧ wr.ownsRow w1.heap.size 57 2 vt (AL ++ rowF L f t l i k).length (fracCells (AL ++ rowF L f t l i k)) ∧ Below w1.heap.size w1 wr) (fun _ k _ => l.length - (intOf k).toNat)
      case atStart => exact ⟨i + 1, _, rfl, by omega, by omega, by go_num, by rw [HR0.out, List.append_nil]; exact hown, hbr⟩
      case round =>
        obtain ⟨k, v2, rfl, hk1, hk2, rfl, hown2, hbr2⟩ := hrel
        have HROW := Lib.hid (rowF_succ (L := L) (f := f) (t := t) (l := l) (i := i) (m := k) (by omega))
        have hrl := rowF_length (L := L) (f := f) (t := t) (l := l) (i := i) k
        by_cases hklt : k < l.length
        · have hkO := KO.step hbr2 HK0.out
          obtain ⟨b, off, c, hv, hc1, hc2, hblt, hcell⟩ := RdS.at_ hkO.k.rs (by omega)
          cases hv
          unfold maxLen at hc2
          obtain ⟨a0, a1, a2⟩ := hcell i hlt
          obtain ⟨b0, b1, b2⟩ := hcell k hklt
          have HCC := Lib.hid (show crC L l i k = (btw L l i k && decide ((atS l i).q ≠ 2) && decide ((atS l k).q ≠ 2) && opp L (atS l i) (atS l k)) from rfl)
          have hik : i < k := by omega
          have hpart : ∀ W, RdS W 71 (.slice (some ⟨b, off, none⟩) l.length ca) l → RdS W 71 (.slice (some ⟨b, off + (i + 1) * 3, none⟩) (k - (i + 1)) (ca - (i + 1))) ((l.drop (i + 1)).take (k - (i + 1))) := fun W h => RdS.part h (i + 1) k (by omega) (by omega) (some ⟨b, off + (i + 1) * 3, none⟩) (fun _ b' off' e => by cases e; rfl)
          have hcon := fun W (h : RdS W 71 (.slice (some ⟨b, off, none⟩) l.length ca) l) (hb : Blk W (w.heap.size + 1) 3 #[.int .i64 L]) => containsFuncS_any _ _ L (w.heap.size + 1) W (hpart W h) (by simp; omega) hb
          have hbt : ((l.drop (i + 1)).take (k - (i + 1))).all (eqL L) = btw L l i k := rfl
          rw [hbt] at hcon
          have HCON := Lib.hid hcon
          clear hcell hpart hcon hbt
          generalize btw L l i k = B at *
          generalize hxe : atS l i = x at *
          generalize hye : atS l k = y at *
          generalize hze : atS l (i + 1) = z at *
          have HX := Lib.hid hxe
          have HY := Lib.hid hye
          have HZ := Lib.hid hze
          clear hxe hye hze
          have i1 : (0 : Int) ≤ (i : Int) := by omega
          have i2 : (i : Int) < (l.length : Int) := by omega
          have i3 : (0 : Int) ≤ (k : Int) := by omega
          have i4 : (k : Int) < (l.length : Int) := by omega
          have k1 : (0 : Int) ≤ (i : Int) + 1 := by omega
          have k2 : (i : Int) + 1 ≤ (k : Int) := by omega
          have k3 : (k : Int) ≤ (ca : Int) := by omega
          have k4 : (i : Int) + 1 < (l.length : Int) := by omega
          have hci : ¬ ca = i + 1 := by omega
          go_upto_region 8 with fail
          have hbn : ∀ o p, Below wr.heap.size wr ((wr.alloc o).alloc p).drew := fun o p => (((Below.refl _ wr).alloc (Nat.le_refl _) _).alloc (by simp) _).drew
          have HBN := Lib.hid hbn
          clear hbn
          go_region
          · have hbn := HBN.out (.cells #[.int .i64 x.t, .int .i64 x.v, .int .i64 x.q] 71) (.cells #[.int .i64 y.t, .int .i64 y.v, .int .i64 y.q] 71)
            clear a0 a1 a2 b0 b1 b2
            have hky : KY w (.slice (some ⟨b, off, none⟩) l.length ca) l f t L (wr.heap.size) (wr.heap.size + 1) x y ((wr.alloc (.cells #[.int .i64 x.t, .int .i64 x.v, .int .i64 x.q] 71)).alloc (.cells #[.int .i64 y.t, .int .i64 y.v, .int .i64 y.q] 71)).drew :=
              ⟨KO.step hbn hkO, ((Blk.new _ _ _).alloc _).drew, (Blk.new1 _ _ _ _).drew⟩
            have hown2b := own_keep hown2 fun b _ _ hh => hbn.block b (lt_of_heap hh)
            have hbr2b := hbr2.trans (hbn.mono hbr2.size)
            clear hbn hown2 hbr2 HBN
            have hnlt : w.heap.size + 1 < wr.heap.size := hkO.b.lt
            go_upto_region 9 with fail
            generalize ((wr.alloc (.cells #[.int .i64 x.t, .int .i64 x.v, .int .i64 x.q] 71)).alloc (.cells #[.int .i64 y.t, .int .i64 y.v, .int .i64 y.q] 71)).drew = W2 at *
            generalize wr.heap.size + 1 = ny at *
            generalize wr.heap.size = nx at *
            go_wp2_with fail
            refine (HCON.out _ hky.o.k.rs hky.o.b).mono ?_
            rintro e W3 ⟨rfl, hb3⟩
            have hky3 := KY.step hb3 hky
            have hown3 := own_keep hown2b fun b _ _ hh => hb3.block b (lt_of_heap hh)
            have hbr3 := hbr2b.trans (hb3.mono hbr2b.size)
            clear hb3 hky hown2b hbr2b
            have x0 : W3.cell? ⟨nx, 0, none⟩ = some (.int .i64 x.t) := hky3.x.cell 0
            have x1 : W3.cell? ⟨nx, 1, none⟩ = some (.int .i64 x.v) := hky3.x.cell 1
            have x2 : W3.cell? ⟨nx, 2, none⟩ = some (.int .i64 x.q) := hky3.x.cell 2
            have y1 : W3.cell? ⟨ny, 1, none⟩ = some (.int .i64 y.v) := hky3.y.cell 1
            have y2 : W3.cell? ⟨ny, 2, none⟩ = some (.int .i64 y.q) := hky3.y.cell 2
            have l0 : W3.cell? ⟨w.heap.size + 1, 0, none⟩ = some (.int .i64 L) := hky3.o.b.cell 0
            cases B
            · have HNIL := Lib.hid (show rowF L f t l i (k + 1) = rowF L f t l i k by rw [HROW.out, crs_nil (by rw [HCC.out]; simp), List.append_nil])
              go_wp2_with fail
              go_quiet (fail)
              go_wp2_with fail
              go_roundw
              case rel => exact ⟨k + 1, _, rfl, by omega, by omega, by go_num, by rw [HNIL.out]; exact hown3, bdrewN hbr3 _⟩
              case measure => simp [intOf]; omega
            · by_cases hqx : x.q = 2
              · have hqx' : (x.q == 2) = true := by simpa using hqx
                have HNIL := Lib.hid (show rowF L f t l i (k + 1) = rowF L f t l i k by rw [HROW.out, crs_nil (by rw [HCC.out, hqx]; simp), List.append_nil])
                clear hqx
                go_wp2_with fail
                go_quiet (fail)
                go_wp2_with fail
                go_roundw
                case rel => exact ⟨k + 1, _, rfl, by omega, by omega, by go_num, by rw [HNIL.out]; exact hown3, bdrewN hbr3 _⟩
                case measure => simp [intOf]; omega
              · have hqx' : (x.q == 2) = false := by simpa using hqx
                by_cases hqy : y.q = 2
                · have hqy' : (y.q == 2) = true := by simpa using hqy
                  have HNIL := Lib.hid (show rowF L f t l i (k + 1) = rowF L f t l i k by rw [HROW.out, crs_nil (by rw [HCC.out, hqy]; simp), List.append_nil])
                  clear hqx hqy
                  go_wp2_with fail
                  go_quiet (fail)
                  go_wp2_with fail
                  go_roundw
                  case rel => exact ⟨k + 1, _, rfl, by omega, by omega, by go_num, by rw [HNIL.out]; exact hown3, bdrewN hbr3 _⟩
                  case measure => simp [intOf]; omega
                · have hqy' : (y.q == 2) = false := by simpa using hqy
                  have hop := opp_cmp L x y
                  have hcb1 := cmpI_bound x.v L
                  have hcb2 := cmpI_bound y.v L
                  have hmb := mul_bound (cmpI x.v L) (cmpI y.v L) 1 1 (by omega) (by omega)
                  have hwm : IntKind.i64.wrap (cmpI x.v L * cmpI y.v L) = cmpI x.v L * cmpI y.v L := IntWalk.i64_in _ (by omega)
                  have HCC2 := Lib.hid (show crC L l i k = opp L x y by rw [HCC.out, show decide (x.q ≠ 2) = true from by simpa using hqx, show decide (y.q ≠ 2) = true from by simpa using hqy]; simp)
                  have HOPN := Lib.hid (fun h : opp L x y = true => opp_ne h)
                  clear hqx hqy hmb
                  have hcx := compare_any x.v L
                  have hcy := compare_any y.v L
                  have HCX := Lib.hid hcx
                  have HCY := Lib.hid hcy
                  clear hcx hcy
                  generalize cmpI x.v L = cx at *
                  generalize cmpI y.v L = cy at *
                  cases hopp : opp L x y
                  · have hge : decide (0 ≤ cx * cy) = true := by rw [hop, hopp]; rfl
                    have HNIL := Lib.hid (show rowF L f t l i (k + 1) = rowF L f t l i k by rw [HROW.out, crs_nil (by rw [HCC2.out, hopp]), List.append_nil])
                    clear hop hopp
                    go_wp2_with fail
                    go_quiet ((first | (go_at_call 117; with_reducible exact quiet_eq (HCX.out _)) | (go_at_call 117; with_reducible exact quiet_eq (HCY.out _))))
                    go_wp2_with fail
                    go_roundw
                    case rel => exact ⟨k + 1, _, rfl, by omega, by omega, by go_num, by rw [HNIL.out]; exact hown3, bdrewN hbr3 _⟩
                    case measure => simp [intOf]; omega
                  · have hge : decide (0 ≤ cx * cy) = false := by rw [hop, hopp]; rfl
                    have hlt0 : cx * cy < 0 := by simpa using hge
                    have HONE := Lib.hid (crs_one (f := f) (t := t) (HCC2.out.trans hopp))
                    have hvv : x.v ≠ y.v := by
                      have h1 := HOPN.out hopp
                      intro he
                      unfold opp at hopp
                      simp only [Bool.or_eq_true, Bool.and_eq_true, decide_eq_true_eq] at hopp
                      omega
                    have HFIT := Lib.hid (crT_fit (L := L) hik hklt HRT.out hLL (by rw [HX.out, HY.out]; exact hvv))
                    have HTD := Lib.hid (show crT L l i k = if k = i + 1 then fracOf (x.t * dif x.v y.v + dif x.v L * (y.t - x.t)) (dif x.v y.v) else (z.t, 1) by unfold crT; rw [HX.out, HY.out, HZ.out])
                    clear hop hopp
                    generalize crT L l i k = T at *
                    go_wp2_with fail
                    go_quiet ((first | (go_at_call 117; with_reducible exact quiet_eq (HCX.out _)) | (go_at_call 117; with_reducible exact quiet_eq (HCY.out _))))
                    have hky4 := KY.step (show Below W3.heap.size W3 (W3.drewN nq) from bdrewN (Below.refl _ _) _) hky3
                    have hbr4 : Below w1.heap.size w1 (W3.drewN nq) := bdrewN hbr3 _
                    have hown4 : (W3.drewN nq).ownsRow w1.heap.size 57 2 v2 (AL ++ rowF L f t l i k).length (fracCells (AL ++ rowF L f t l i k)) := own_keep hown3 fun b _ _ hh => rfl
                    clear x0 x1 x2 y1 y2 l0 hwm hge hlt0 hcb1 hcb2 HCX HCY hky3 hbr3 hown3
                    generalize W3.drewN nq = W4 at *
                    have z0 : W4.cell? ⟨b, off + (i + 1) * 3, none⟩ = some (.int .i64 z.t) := by rw [← HZ.out]; exact (hky4.o.k.rs.atv (i + 1) (by omega)).1
                    have hky5 := KY.step ((Below.refl W4.heap.size W4).alloc (Nat.le_refl _) (.cells #[.int .i64 z.t, .int .i64 1] 57)) hky4
                    have hb13 := Blk.new W4 57 #[.int .i64 z.t, .int .i64 1]
                    have hbr5 := hbr4.alloc hbr4.size (.cells #[.int .i64 z.t, .int .i64 1] 57)
                    have hown5 := hown4.alloc (.cells #[.int .i64 z.t, .int .i64 1] 57)
                    have hn13 : w1.heap.size ≤ W4.heap.size := hbr4.size
                    have hvn : ∀ b, v2.ownBlock = some b → b < W4.heap.size := fun b hb => (hown4.lt b hb).2
                    have hxn : nx < W4.heap.size := hky4.x.lt
                    have hyn : ny < W4.heap.size := hky4.y.lt
                    clear hky4 hbr4 hown4
                    go_upto_region 12 with fail
                    generalize W4.alloc (.cells #[.int .i64 z.t, .int .i64 1] 57) = W5 at *
                    generalize W4.heap.size = n13 at *
                    clear z0
                    have hnx : nx ≠ n13 := by omega
                    have hny : ny ≠ n13 := by omega
                    have hnw : w.heap.size + 1 ≠ n13 := by omega
                    have hnv : w.heap.size ≠ n13 := by omega
                    by_cases hki : k = i + 1
                    · have hki' : ((k : Int) == (i : Int) + 1) = true := by simp; omega
                      have hT : T = fracOf (x.t * dif y.v x.v + (y.t - x.t) * dif L x.v) (dif y.v x.v) := by rw [HTD.out, if_pos hki, dif_comm y.v x.v, dif_comm L x.v, Int.mul_comm (y.t - x.t)]
                      have hrx := HRT.out i hlt
                      have hry := HRT.out k hklt
                      rw [HX.out] at hrx
                      rw [HY.out] at hry
                      unfold Right at hrx hry
                      have hD : 1 ≤ dif y.v x.v ∧ dif y.v x.v ≤ 2000000 := by unfold dif; split <;> omega
                      have hF : 0 ≤ dif L x.v ∧ dif L x.v ≤ 2000000 := by unfold dif; split <;> omega
                      have hf1 := fun w => far_any y.v x.v w (by omega) (by omega)
                      have hf2 := fun w => far_any L x.v w (by omega) (by omega)
                      rw [dif_dist] at hf1 hf2
                      have HF1 := Lib.hid hf1
                      have HF2 := Lib.hid hf2
                      clear hf1 hf2 hki
                      generalize dif y.v x.v = D at *
                      generalize dif L x.v = F at *
                      have hm1 := mul_bound x.t D 345686400000 2000000 (by omega) (by omega)
                      have hm2 := mul_bound (y.t - x.t) F 345686400000 2000000 (by omega) (by omega)
                      have hv1 : IntKind.i64.wrap (y.t - x.t) = y.t - x.t := IntWalk.i64_in _ (by omega)
                      have hv2 : IntKind.i64.wrap (x.t * D) = x.t * D := IntWalk.i64_in _ (by omega)
                      have hv3 : IntKind.i64.wrap ((y.t - x.t) * F) = (y.t - x.t) * F := IntWalk.i64_in _ (by omega)
                      have hv4 : IntKind.i64.wrap (x.t * D + (y.t - x.t) * F) = x.t * D + (y.t - x.t) * F := IntWalk.i64_in _ (by omega)
                      have hlo := fun w => rlowest_any (x.t * D + (y.t - x.t) * F) D w (by omega) (by omega)
                      rw [← hT] at hlo
                      have HLO := Lib.hid hlo
                      clear hlo hT hm1 hm2
                      have hkz : KZ w (.slice (some ⟨b, off, none⟩) l.length ca) l f t L nx ny n13 x y z W5 := ⟨hky5, hb13⟩
                      have x0 : W5.cell? ⟨nx, 0, none⟩ = some (.int .i64 x.t) := hky5.x.cell 0
                      have x1 : W5.cell? ⟨nx, 1, none⟩ = some (.int .i64 x.v) := hky5.x.cell 1
                      have y0 : W5.cell? ⟨ny, 0, none⟩ = some (.int .i64 y.t) := hky5.y.cell 0
                      have y1 : W5.cell? ⟨ny, 1, none⟩ = some (.int .i64 y.v) := hky5.y.cell 1
                      have l0 : W5.cell? ⟨w.heap.size + 1, 0, none⟩ = some (.int .i64 L) := hky5.o.b.cell 0
                      clear hky5 hb13
                      go_wp2_with fail
                      refine (HF1.out _).mono ?_
                      rintro e W7 ⟨rfl, rfl⟩
                      go_upto_region 14 with fail
                      go_region_held3 (fun w' => w'.cell? ⟨nx, 0, none⟩ = some (.int .i64 x.t) ∧ w'.cell? ⟨nx, 1, none⟩ = some (.int .i64 x.v) ∧ w'.cell? ⟨ny, 0, none⟩ = some (.int .i64 y.t) ∧ w'.cell? ⟨w.heap.size + 1, 0, none⟩ = some (.int .i64 L))
                        (first | exact ⟨hkk.y.x.cell 0, hkk.y.x.cell 1, hkk.y.y.cell 0, hkk.y.o.b.cell 0⟩ | exact ⟨x0, x1, y0, l0⟩ | exact ⟨(hkk.stored _ _ hnx hny hnw).1.cell 0, (hkk.stored _ _ hnx hny hnw).1.cell 1, (hkk.stored _ _ hnx hny hnw).2.1.cell 0, (hkk.stored _ _ hnx hny hnw).2.2.cell 0⟩ | go_keep)
                        (first
                        | (go_at_call 103; (with_reducible refine (HF2.out _).mono ?_); rintro e wk ⟨rfl, rfl⟩)
                        | (go_at_call 43; (with_reducible refine (HLO.out _).mono ?_); rintro e wk ⟨rfl, hbk⟩; have hkk := KZ.step hbk (by first | assumption | exact KZ.drew (by assumption)); have HBK := Lib.hid hbk; have t0 : wk.frozen? ⟨n13, 0, none⟩ = false := hkk.z.frozen 0; have t1 : wk.frozen? ⟨n13, 1, none⟩ = false := hkk.z.frozen 1; have t2 : wk.cell? ⟨n13, 0, none⟩ = some (.int .i64 z.t) := hkk.z.cell 0; have t3 : wk.cell? ⟨n13, 1, none⟩ = some (.int .i64 1) := hkk.z.cell 1; clear hbk))
                      have hown6 : ((wk.setCell ⟨n13, 0, none⟩ (.int .i64 T.1)).setCell ⟨n13, 1, none⟩ (.int .i64 T.2)).ownsRow w1.heap.size 57 2 v2 (AL ++ rowF L f t l i k).length (fracCells (AL ++ rowF L f t l i k)) := own_set (own_set (own_keep hown5 fun b _ _ hh => HBK.out.block b (lt_of_heap hh)) hvn _) hvn _
                      have hbw6 : Below w1.heap.size w1 ((wk.setCell ⟨n13, 0, none⟩ (.int .i64 T.1)).setCell ⟨n13, 1, none⟩ (.int .i64 T.2)) := ((hbr5.drew.trans (HBK.out.mono hbr5.drew.size)).setCell hn13 _).setCell hn13 _
                      obtain ⟨hkw, hbT⟩ := hkk.win (.int .i64 T.1) (.int .i64 T.2) hnv
                      go_upto_region 15 with fail
                      clear hkk t0 t1 t2 t3 x0 x1 y0 y1 l0 hv1 hv2 hv3 hv4 HBK hown5 hbr5 hkz
                      generalize (wk.setCell ⟨n13, 0, none⟩ (.int .i64 T.1)).setCell ⟨n13, 1, none⟩ (.int .i64 T.2) = W6 at *
                      have hT2 := HFIT.out
                      unfold FitT at hT2
                      have hm1 := mul_bound f T.2 400000000000 4000000 (by omega) (by omega)
                      have hm2 := mul_bound t T.2 400000000000 4000000 (by omega) (by omega)
                      have hw1 : IntKind.i64.wrap (f * T.2) = f * T.2 := IntWalk.i64_in _ (by omega)
                      have hw2 : IntKind.i64.wrap (t * T.2) = t * T.2 := IntWalk.i64_in _ (by omega)
                      have q0 : W6.cell? ⟨n13, 0, none⟩ = some (.int .i64 T.1) := hbT.cell 0
                      have q1 : W6.cell? ⟨n13, 1, none⟩ = some (.int .i64 T.2) := hbT.cell 1
                      have e0 : W6.cell? ⟨w.heap.size, 0, none⟩ = some (.int .i64 f) := hkw.cell 0
                      have e1 : W6.cell? ⟨w.heap.size, 1, none⟩ = some (.int .i64 t) := hkw.cell 1
                      have hsz6 := hbw6.size
                      clear hm1 hm2
                      by_cases h1 : f * T.2 ≤ T.1
                      · have h1' : decide (f * T.2 ≤ T.1) = true := by simpa using h1
                        by_cases h2 : T.1 < t * T.2
                        · have h2' : decide (T.1 < t * T.2) = true := by simpa using h2
                          have HN2 := Lib.hid (show crs L f t l i k = [T] by rw [HONE.out, if_pos (by unfold insB; rw [h1', h2']; rfl)])
                          have HN3 := Lib.hid (show rowF L f t l i (k + 1) = rowF L f t l i k ++ [T] by rw [HROW.out, HN2.out])
                          go_wp2_with (at_builtin; refine wpList_append_frac rfl (.tmp 119) (.tmp 121) rfl w1.heap.size v2 (AL ++ rowF L f t l i k).length (AL ++ rowF L f t l i k) rfl (by exact hown6.alloc _) W6.heap.size rfl T (by exact Blk.new _ _ _) (by rw [List.length_append]; omega) (by simp; omega) ?_; intro v7 w7 hown7 hgrow7; have hb7 := (hbw6.alloc hsz6 _).trans (below_grown (hown6.alloc _) (by simp; omega) hgrow7); clear hgrow7)
                          go_roundw
                          case rel => exact ⟨k + 1, _, rfl, by omega, by omega, by go_num, by rw [HN3.out, ← List.append_assoc, List.length_append, List.length_singleton]; exact hown7, hb7⟩
                          case measure => simp [intOf]; omega
                        · have h2' : decide (T.1 < t * T.2) = false := by simpa using h2
                          have HN2 := Lib.hid (show crs L f t l i k = [] by rw [HONE.out, if_neg (by unfold insB; rw [h1', h2']; simp)])
                          have HN3 := Lib.hid (show rowF L f t l i (k + 1) = rowF L f t l i k by rw [HROW.out, HN2.out, List.append_nil])
                          have h3 : t * T.2 ≤ T.1 := by omega
                          clear h2
                          go_wp2_with fail
                          go_roundw
                          case rel => exact ⟨k + 1, _, rfl, by omega, by omega, by go_num, by rw [HN3.out]; exact hown6, hbw6⟩
                          case measure => simp [intOf]; omega
                      · have h1' : decide (f * T.2 ≤ T.1) = false := by simpa using h1
                        have HN2 := Lib.hid (show crs L f t l i k = [] by rw [HONE.out, if_neg (by unfold insB; rw [h1']; simp)])
                        have HN3 := Lib.hid (show rowF L f t l i (k + 1) = rowF L f t l i k by rw [HROW.out, HN2.out, List.append_nil])
                        have h3 : T.1 < f * T.2 := by omega
                        clear h1
                        go_wp2_with fail
                        go_roundw
                        case rel => exact ⟨k + 1, _, rfl, by omega, by omega, by go_num, by rw [HN3.out]; exact hown6, hbw6⟩
                        case measure => simp [intOf]; omega
                    · have hki' : ((k : Int) == (i : Int) + 1) = false := by simp; omega
                      have hT : T = (z.t, 1) := by rw [HTD.out, if_neg hki]
                      obtain ⟨W6, hW6⟩ : ∃ W6, W5 = W6 := ⟨_, rfl⟩
                      subst hW6
                      have hk6 := hky5.o
                      have hbT : Blk W5 n13 57 #[.int .i64 T.1, .int .i64 T.2] := by rw [hT]; exact hb13
                      have hbw6 := hbr5
                      have hown6 := hown5
                      clear hT hb13 hbr5 hown5 hky5 hki
                      go_upto_region 15 with fail
                      generalize W5 = W6 at *
                      have hT2 := HFIT.out
                      unfold FitT at hT2
                      have hm1 := mul_bound f T.2 400000000000 4000000 (by omega) (by omega)
                      have hm2 := mul_bound t T.2 400000000000 4000000 (by omega) (by omega)
                      have hw1 : IntKind.i64.wrap (f * T.2) = f * T.2 := IntWalk.i64_in _ (by omega)
                      have hw2 : IntKind.i64.wrap (t * T.2) = t * T.2 := IntWalk.i64_in _ (by omega)
                      have q0 : W6.cell? ⟨n13, 0, none⟩ = some (.int .i64 T.1) := hbT.cell 0
                      have q1 : W6.cell? ⟨n13, 1, none⟩ = some (.int .i64 T.2) := hbT.cell 1
                      have e0 : W6.cell? ⟨w.heap.size, 0, none⟩ = some (.int .i64 f) := hk6.k.bw.cell 0
                      have e1 : W6.cell? ⟨w.heap.size, 1, none⟩ = some (.int .i64 t) := hk6.k.bw.cell 1
                      have hsz6 := hbw6.size
                      clear hm1 hm2
                      by_cases h1 : f * T.2 ≤ T.1
                      · have h1' : decide (f * T.2 ≤ T.1) = true := by simpa using h1
                        by_cases h2 : T.1 < t * T.2
                        · have h2' : decide (T.1 < t * T.2) = true := by simpa using h2
                          have HN2 := Lib.hid (show crs L f t l i k = [T] by rw [HONE.out, if_pos (by unfold insB; rw [h1', h2']; rfl)])
                          have HN3 := Lib.hid (show rowF L f t l i (k + 1) = rowF L f t l i k ++ [T] by rw [HROW.out, HN2.out])
                          go_wp2_with (at_builtin; refine wpList_append_frac rfl (.tmp 119) (.tmp 121) rfl w1.heap.size v2 (AL ++ rowF L f t l i k).length (AL ++ rowF L f t l i k) rfl (by exact hown6.alloc _) W6.heap.size rfl T (by exact Blk.new _ _ _) (by rw [List.length_append]; omega) (by simp; omega) ?_; intro v7 w7 hown7 hgrow7; have hb7 := (hbw6.alloc hsz6 _).trans (below_grown (hown6.alloc _) (by simp; omega) hgrow7); clear hgrow7)
                          go_roundw
                          case rel => exact ⟨k + 1, _, rfl, by omega, by omega, by go_num, by rw [HN3.out, ← List.append_assoc, List.length_append, List.length_singleton]; exact hown7, hb7⟩
                          case measure => simp [intOf]; omega
                        · have h2' : decide (T.1 < t * T.2) = false := by simpa using h2
                          have HN2 := Lib.hid (show crs L f t l i k = [] by rw [HONE.out, if_neg (by unfold insB; rw [h1', h2']; simp)])
                          have HN3 := Lib.hid (show rowF L f t l i (k + 1) = rowF L f t l i k by rw [HROW.out, HN2.out, List.append_nil])
                          have h3 : t * T.2 ≤ T.1 := by omega
                          clear h2
                          go_wp2_with fail
                          go_roundw
                          case rel => exact ⟨k + 1, _, rfl, by omega, by omega, by go_num, by rw [HN3.out]; exact hown6, hbw6⟩
                          case measure => simp [intOf]; omega
                      · have h1' : decide (f * T.2 ≤ T.1) = false := by simpa using h1
                        have HN2 := Lib.hid (show crs L f t l i k = [] by rw [HONE.out, if_neg (by unfold insB; rw [h1']; simp)])
                        have HN3 := Lib.hid (show rowF L f t l i (k + 1) = rowF L f t l i k by rw [HROW.out, HN2.out, List.append_nil])
                        have h3 : T.1 < f * T.2 := by omega
                        clear h1
                        go_wp2_with fail
                        go_roundw
                        case rel => exact ⟨k + 1, _, rfl, by omega, by omega, by go_num, by rw [HN3.out]; exact hown6, hbw6⟩
                        case measure => simp [intOf]; omega
          · have hbn := HBN.out (.cells #[.int .i64 y.t, .int .i64 y.v, .int .i64 y.q] 71) (.cells #[.int .i64 x.t, .int .i64 x.v, .int .i64 x.q] 71)
            clear a0 a1 a2 b0 b1 b2
            have hky : KY w (.slice (some ⟨b, off, none⟩) l.length ca) l f t L (wr.heap.size + 1) (wr.heap.size) x y ((wr.alloc (.cells #[.int .i64 y.t, .int .i64 y.v, .int .i64 y.q] 71)).alloc (.cells #[.int .i64 x.t, .int .i64 x.v, .int .i64 x.q] 71)).drew :=
              ⟨KO.step hbn hkO, (Blk.new1 _ _ _ _).drew, ((Blk.new _ _ _).alloc _).drew⟩
            have hown2b := own_keep hown2 fun b _ _ hh => hbn.block b (lt_of_heap hh)
            have hbr2b := hbr2.trans (hbn.mono hbr2.size)
            clear hbn hown2 hbr2 HBN
            have hnlt : w.heap.size + 1 < wr.heap.size := hkO.b.lt
            go_upto_region 9 with fail
            generalize ((wr.alloc (.cells #[.int .i64 y.t, .int .i64 y.v, .int .i64 y.q] 71)).alloc (.cells #[.int .i64 x.t, .int .i64 x.v, .int .i64 x.q] 71)).drew = W2 at *
            generalize wr.heap.size + 1 = nx at *
            generalize wr.heap.size = ny at *
            go_wp2_with fail
            refine (HCON.out _ hky.o.k.rs hky.o.b).mono ?_
            rintro e W3 ⟨rfl, hb3⟩
            have hky3 := KY.step hb3 hky
            have hown3 := own_keep hown2b fun b _ _ hh => hb3.block b (lt_of_heap hh)
            have hbr3 := hbr2b.trans (hb3.mono hbr2b.size)
            clear hb3 hky hown2b hbr2b
            have x0 : W3.cell? ⟨nx, 0, none⟩ = some (.int .i64 x.t) := hky3.x.cell 0
            have x1 : W3.cell? ⟨nx, 1, none⟩ = some (.int .i64 x.v) := hky3.x.cell 1
            have x2 : W3.cell? ⟨nx, 2, none⟩ = some (.int .i64 x.q) := hky3.x.cell 2
            have y1 : W3.cell? ⟨ny, 1, none⟩ = some (.int .i64 y.v) := hky3.y.cell 1
            have y2 : W3.cell? ⟨ny, 2, none⟩ = some (.int .i64 y.q) := hky3.y.cell 2
            have l0 : W3.cell? ⟨w.heap.size + 1, 0, none⟩ = some (.int .i64 L) := hky3.o.b.cell 0
            cases B
            · have HNIL := Lib.hid (show rowF L f t l i (k + 1) = rowF L f t l i k by rw [HROW.out, crs_nil (by rw [HCC.out]; simp), List.append_nil])
              go_wp2_with fail
              go_quiet (fail)
              go_wp2_with fail
              go_roundw
              case rel => exact ⟨k + 1, _, rfl, by omega, by omega, by go_num, by rw [HNIL.out]; exact hown3, bdrewN hbr3 _⟩
              case measure => simp [intOf]; omega
            · by_cases hqx : x.q = 2
              · have hqx' : (x.q == 2) = true := by simpa using hqx
                have HNIL := Lib.hid (show rowF L f t l i (k + 1) = rowF L f t l i k by rw [HROW.out, crs_nil (by rw [HCC.out, hqx]; simp), List.append_nil])
                clear hqx
                go_wp2_with fail
                go_quiet (fail)
                go_wp2_with fail
                go_roundw
                case rel => exact ⟨k + 1, _, rfl, by omega, by omega, by go_num, by rw [HNIL.out]; exact hown3, bdrewN hbr3 _⟩
                case measure => simp [intOf]; omega
              · have hqx' : (x.q == 2) = false := by simpa using hqx
                by_cases hqy : y.q = 2
                · have hqy' : (y.q == 2) = true := by simpa using hqy
                  have HNIL := Lib.hid (show rowF L f t l i (k + 1) = rowF L f t l i k by rw [HROW.out, crs_nil (by rw [HCC.out, hqy]; simp), List.append_nil])
                  clear hqx hqy
                  go_wp2_with fail
                  go_quiet (fail)
                  go_wp2_with fail
                  go_roundw
                  case rel => exact ⟨k + 1, _, rfl, by omega, by omega, by go_num, by rw [HNIL.out]; exact hown3, bdrewN hbr3 _⟩
                  case measure => simp [intOf]; omega
                · have hqy' : (y.q == 2) = false := by simpa using hqy
                  have hop := opp_cmp L x y
                  have hcb1 := cmpI_bound x.v L
                  have hcb2 := cmpI_bound y.v L
                  have hmb := mul_bound (cmpI x.v L) (cmpI y.v L) 1 1 (by omega) (by omega)
                  have hwm : IntKind.i64.wrap (cmpI x.v L * cmpI y.v L) = cmpI x.v L * cmpI y.v L := IntWalk.i64_in _ (by omega)
                  have HCC2 := Lib.hid (show crC L l i k = opp L x y by rw [HCC.out, show decide (x.q ≠ 2) = true from by simpa using hqx, show decide (y.q ≠ 2) = true from by simpa using hqy]; simp)
                  have HOPN := Lib.hid (fun h : opp L x y = true => opp_ne h)
                  clear hqx hqy hmb
                  have hcx := compare_any x.v L
                  have hcy := compare_any y.v L
                  have HCX := Lib.hid hcx
                  have HCY := Lib.hid hcy
                  clear hcx hcy
                  generalize cmpI x.v L = cx at *
                  generalize cmpI y.v L = cy at *
                  cases hopp : opp L x y
                  · have hge : decide (0 ≤ cx * cy) = true := by rw [hop, hopp]; rfl
                    have HNIL := Lib.hid (show rowF L f t l i (k + 1) = rowF L f t l i k by rw [HROW.out, crs_nil (by rw [HCC2.out, hopp]), List.append_nil])
                    clear hop hopp
                    go_wp2_with fail
                    go_quiet ((first | (go_at_call 117; with_reducible exact quiet_eq (HCX.out _)) | (go_at_call 117; with_reducible exact quiet_eq (HCY.out _))))
                    go_wp2_with fail
                    go_roundw
                    case rel => exact ⟨k + 1, _, rfl, by omega, by omega, by go_num, by rw [HNIL.out]; exact hown3, bdrewN hbr3 _⟩
                    case measure => simp [intOf]; omega
                  · have hge : decide (0 ≤ cx * cy) = false := by rw [hop, hopp]; rfl
                    have hlt0 : cx * cy < 0 := by simpa using hge
                    have HONE := Lib.hid (crs_one (f := f) (t := t) (HCC2.out.trans hopp))
                    have hvv : x.v ≠ y.v := by
                      have h1 := HOPN.out hopp
                      intro he
                      unfold opp at hopp
                      simp only [Bool.or_eq_true, Bool.and_eq_true, decide_eq_true_eq] at hopp
                      omega
                    have HFIT := Lib.hid (crT_fit (L := L) hik hklt HRT.out hLL (by rw [HX.out, HY.out]; exact hvv))
                    have HTD := Lib.hid (show crT L l i k = if k = i + 1 then fracOf (x.t * dif x.v y.v + dif x.v L * (y.t - x.t)) (dif x.v y.v) else (z.t, 1) by unfold crT; rw [HX.out, HY.out, HZ.out])
                    clear hop hopp
                    generalize crT L l i k = T at *
                    go_wp2_with fail
                    go_quiet ((first | (go_at_call 117; with_reducible exact quiet_eq (HCX.out _)) | (go_at_call 117; with_reducible exact quiet_eq (HCY.out _))))
                    have hky4 := KY.step (show Below W3.heap.size W3 (W3.drewN nq) from bdrewN (Below.refl _ _) _) hky3
                    have hbr4 : Below w1.heap.size w1 (W3.drewN nq) := bdrewN hbr3 _
                    have hown4 : (W3.drewN nq).ownsRow w1.heap.size 57 2 v2 (AL ++ rowF L f t l i k).length (fracCells (AL ++ rowF L f t l i k)) := own_keep hown3 fun b _ _ hh => rfl
                    clear x0 x1 x2 y1 y2 l0 hwm hge hlt0 hcb1 hcb2 HCX HCY hky3 hbr3 hown3
                    generalize W3.drewN nq = W4 at *
                    have z0 : W4.cell? ⟨b, off + (i + 1) * 3, none⟩ = some (.int .i64 z.t) := by rw [← HZ.out]; exact (hky4.o.k.rs.atv (i + 1) (by omega)).1
                    have hky5 := KY.step ((Below.refl W4.heap.size W4).alloc (Nat.le_refl _) (.cells #[.int .i64 z.t, .int .i64 1] 57)) hky4
                    have hb13 := Blk.new W4 57 #[.int .i64 z.t, .int .i64 1]
                    have hbr5 := hbr4.alloc hbr4.size (.cells #[.int .i64 z.t, .int .i64 1] 57)
                    have hown5 := hown4.alloc (.cells #[.int .i64 z.t, .int .i64 1] 57)
                    have hn13 : w1.heap.size ≤ W4.heap.size := hbr4.size
                    have hvn : ∀ b, v2.ownBlock = some b → b < W4.heap.size := fun b hb => (hown4.lt b hb).2
                    have hxn : nx < W4.heap.size := hky4.x.lt
                    have hyn : ny < W4.heap.size := hky4.y.lt
                    clear hky4 hbr4 hown4
                    go_upto_region 12 with fail
                    generalize W4.alloc (.cells #[.int .i64 z.t, .int .i64 1] 57) = W5 at *
                    generalize W4.heap.size = n13 at *
                    clear z0
                    have hnx : nx ≠ n13 := by omega
                    have hny : ny ≠ n13 := by omega
                    have hnw : w.heap.size + 1 ≠ n13 := by omega
                    have hnv : w.heap.size ≠ n13 := by omega
                    by_cases hki : k = i + 1
                    · have hki' : ((k : Int) == (i : Int) + 1) = true := by simp; omega
                      have hT : T = fracOf (x.t * dif y.v x.v + (y.t - x.t) * dif L x.v) (dif y.v x.v) := by rw [HTD.out, if_pos hki, dif_comm y.v x.v, dif_comm L x.v, Int.mul_comm (y.t - x.t)]
                      have hrx := HRT.out i hlt
                      have hry := HRT.out k hklt
                      rw [HX.out] at hrx
                      rw [HY.out] at hry
                      unfold Right at hrx hry
                      have hD : 1 ≤ dif y.v x.v ∧ dif y.v x.v ≤ 2000000 := by unfold dif; split <;> omega
                      have hF : 0 ≤ dif L x.v ∧ dif L x.v ≤ 2000000 := by unfold dif; split <;> omega
                      have hf1 := fun w => far_any y.v x.v w (by omega) (by omega)
                      have hf2 := fun w => far_any L x.v w (by omega) (by omega)
                      rw [dif_dist] at hf1 hf2
                      have HF1 := Lib.hid hf1
                      have HF2 := Lib.hid hf2
                      clear hf1 hf2 hki
                      generalize dif y.v x.v = D at *
                      generalize dif L x.v = F at *
                      have hm1 := mul_bound x.t D 345686400000 2000000 (by omega) (by omega)
                      have hm2 := mul_bound (y.t - x.t) F 345686400000 2000000 (by omega) (by omega)
                      have hv1 : IntKind.i64.wrap (y.t - x.t) = y.t - x.t := IntWalk.i64_in _ (by omega)
                      have hv2 : IntKind.i64.wrap (x.t * D) = x.t * D := IntWalk.i64_in _ (by omega)
                      have hv3 : IntKind.i64.wrap ((y.t - x.t) * F) = (y.t - x.t) * F := IntWalk.i64_in _ (by omega)
                      have hv4 : IntKind.i64.wrap (x.t * D + (y.t - x.t) * F) = x.t * D + (y.t - x.t) * F := IntWalk.i64_in _ (by omega)
                      have hlo := fun w => rlowest_any (x.t * D + (y.t - x.t) * F) D w (by omega) (by omega)
                      rw [← hT] at hlo
                      have HLO := Lib.hid hlo
                      clear hlo hT hm1 hm2
                      have hkz : KZ w (.slice (some ⟨b, off, none⟩) l.length ca) l f t L nx ny n13 x y z W5 := ⟨hky5, hb13⟩
                      have x0 : W5.cell? ⟨nx, 0, none⟩ = some (.int .i64 x.t) := hky5.x.cell 0
                      have x1 : W5.cell? ⟨nx, 1, none⟩ = some (.int .i64 x.v) := hky5.x.cell 1
                      have y0 : W5.cell? ⟨ny, 0, none⟩ = some (.int .i64 y.t) := hky5.y.cell 0
                      have y1 : W5.cell? ⟨ny, 1, none⟩ = some (.int .i64 y.v) := hky5.y.cell 1
                      have l0 : W5.cell? ⟨w.heap.size + 1, 0, none⟩ = some (.int .i64 L) := hky5.o.b.cell 0
                      clear hky5 hb13
                      go_wp2_with fail
                      refine (HF1.out _).mono ?_
                      rintro e W7 ⟨rfl, rfl⟩
                      go_upto_region 14 with fail
                      go_region_held3 (fun w' => w'.cell? ⟨nx, 0, none⟩ = some (.int .i64 x.t) ∧ w'.cell? ⟨nx, 1, none⟩ = some (.int .i64 x.v) ∧ w'.cell? ⟨ny, 0, none⟩ = some (.int .i64 y.t) ∧ w'.cell? ⟨w.heap.size + 1, 0, none⟩ = some (.int .i64 L))
                        (first | exact ⟨hkk.y.x.cell 0, hkk.y.x.cell 1, hkk.y.y.cell 0, hkk.y.o.b.cell 0⟩ | exact ⟨x0, x1, y0, l0⟩ | exact ⟨(hkk.stored _ _ hnx hny hnw).1.cell 0, (hkk.stored _ _ hnx hny hnw).1.cell 1, (hkk.stored _ _ hnx hny hnw).2.1.cell 0, (hkk.stored _ _ hnx hny hnw).2.2.cell 0⟩ | go_keep)
                        (first
                        | (go_at_call 103; (with_reducible refine (HF2.out _).mono ?_); rintro e wk ⟨rfl, rfl⟩)
                        | (go_at_call 43; (with_reducible refine (HLO.out _).mono ?_); rintro e wk ⟨rfl, hbk⟩; have hkk := KZ.step hbk (by first | assumption | exact KZ.drew (by assumption)); have HBK := Lib.hid hbk; have t0 : wk.frozen? ⟨n13, 0, none⟩ = false := hkk.z.frozen 0; have t1 : wk.frozen? ⟨n13, 1, none⟩ = false := hkk.z.frozen 1; have t2 : wk.cell? ⟨n13, 0, none⟩ = some (.int .i64 z.t) := hkk.z.cell 0; have t3 : wk.cell? ⟨n13, 1, none⟩ = some (.int .i64 1) := hkk.z.cell 1; clear hbk))
                      have hown6 : ((wk.setCell ⟨n13, 0, none⟩ (.int .i64 T.1)).setCell ⟨n13, 1, none⟩ (.int .i64 T.2)).ownsRow w1.heap.size 57 2 v2 (AL ++ rowF L f t l i k).length (fracCells (AL ++ rowF L f t l i k)) := own_set (own_set (own_keep hown5 fun b _ _ hh => HBK.out.block b (lt_of_heap hh)) hvn _) hvn _
                      have hbw6 : Below w1.heap.size w1 ((wk.setCell ⟨n13, 0, none⟩ (.int .i64 T.1)).setCell ⟨n13, 1, none⟩ (.int .i64 T.2)) := ((hbr5.drew.trans (HBK.out.mono hbr5.drew.size)).setCell hn13 _).setCell hn13 _
                      obtain ⟨hkw, hbT⟩ := hkk.win (.int .i64 T.1) (.int .i64 T.2) hnv
                      go_upto_region 15 with fail
                      clear hkk t0 t1 t2 t3 x0 x1 y0 y1 l0 hv1 hv2 hv3 hv4 HBK hown5 hbr5 hkz
                      generalize (wk.setCell ⟨n13, 0, none⟩ (.int .i64 T.1)).setCell ⟨n13, 1, none⟩ (.int .i64 T.2) = W6 at *
                      have hT2 := HFIT.out
                      unfold FitT at hT2
                      have hm1 := mul_bound f T.2 400000000000 4000000 (by omega) (by omega)
                      have hm2 := mul_bound t T.2 400000000000 4000000 (by omega) (by omega)
                      have hw1 : IntKind.i64.wrap (f * T.2) = f * T.2 := IntWalk.i64_in _ (by omega)
                      have hw2 : IntKind.i64.wrap (t * T.2) = t * T.2 := IntWalk.i64_in _ (by omega)
                      have q0 : W6.cell? ⟨n13, 0, none⟩ = some (.int .i64 T.1) := hbT.cell 0
                      have q1 : W6.cell? ⟨n13, 1, none⟩ = some (.int .i64 T.2) := hbT.cell 1
                      have e0 : W6.cell? ⟨w.heap.size, 0, none⟩ = some (.int .i64 f) := hkw.cell 0
                      have e1 : W6.cell? ⟨w.heap.size, 1, none⟩ = some (.int .i64 t) := hkw.cell 1
                      have hsz6 := hbw6.size
                      clear hm1 hm2
                      by_cases h1 : f * T.2 ≤ T.1
                      · have h1' : decide (f * T.2 ≤ T.1) = true := by simpa using h1
                        by_cases h2 : T.1 < t * T.2
                        · have h2' : decide (T.1 < t * T.2) = true := by simpa using h2
                          have HN2 := Lib.hid (show crs L f t l i k = [T] by rw [HONE.out, if_pos (by unfold insB; rw [h1', h2']; rfl)])
                          have HN3 := Lib.hid (show rowF L f t l i (k + 1) = rowF L f t l i k ++ [T] by rw [HROW.out, HN2.out])
                          go_wp2_with (at_builtin; refine wpList_append_frac rfl (.tmp 119) (.tmp 121) rfl w1.heap.size v2 (AL ++ rowF L f t l i k).length (AL ++ rowF L f t l i k) rfl (by exact hown6.alloc _) W6.heap.size rfl T (by exact Blk.new _ _ _) (by rw [List.length_append]; omega) (by simp; omega) ?_; intro v7 w7 hown7 hgrow7; have hb7 := (hbw6.alloc hsz6 _).trans (below_grown (hown6.alloc _) (by simp; omega) hgrow7); clear hgrow7)
                          go_roundw
                          case rel => exact ⟨k + 1, _, rfl, by omega, by omega, by go_num, by rw [HN3.out, ← List.append_assoc, List.length_append, List.length_singleton]; exact hown7, hb7⟩
                          case measure => simp [intOf]; omega
                        · have h2' : decide (T.1 < t * T.2) = false := by simpa using h2
                          have HN2 := Lib.hid (show crs L f t l i k = [] by rw [HONE.out, if_neg (by unfold insB; rw [h1', h2']; simp)])
                          have HN3 := Lib.hid (show rowF L f t l i (k + 1) = rowF L f t l i k by rw [HROW.out, HN2.out, List.append_nil])
                          have h3 : t * T.2 ≤ T.1 := by omega
                          clear h2
                          go_wp2_with fail
                          go_roundw
                          case rel => exact ⟨k + 1, _, rfl, by omega, by omega, by go_num, by rw [HN3.out]; exact hown6, hbw6⟩
                          case measure => simp [intOf]; omega
                      · have h1' : decide (f * T.2 ≤ T.1) = false := by simpa using h1
                        have HN2 := Lib.hid (show crs L f t l i k = [] by rw [HONE.out, if_neg (by unfold insB; rw [h1']; simp)])
                        have HN3 := Lib.hid (show rowF L f t l i (k + 1) = rowF L f t l i k by rw [HROW.out, HN2.out, List.append_nil])
                        have h3 : T.1 < f * T.2 := by omega
                        clear h1
                        go_wp2_with fail
                        go_roundw
                        case rel => exact ⟨k + 1, _, rfl, by omega, by omega, by go_num, by rw [HN3.out]; exact hown6, hbw6⟩
                        case measure => simp [intOf]; omega
                    · have hki' : ((k : Int) == (i : Int) + 1) = false := by simp; omega
                      have hT : T = (z.t, 1) := by rw [HTD.out, if_neg hki]
                      obtain ⟨W6, hW6⟩ : ∃ W6, W5 = W6 := ⟨_, rfl⟩
                      subst hW6
                      have hk6 := hky5.o
                      have hbT : Blk W5 n13 57 #[.int .i64 T.1, .int .i64 T.2] := by rw [hT]; exact hb13
                      have hbw6 := hbr5
                      have hown6 := hown5
                      clear hT hb13 hbr5 hown5 hky5 hki
                      go_upto_region 15 with fail
                      generalize W5 = W6 at *
                      have hT2 := HFIT.out
                      unfold FitT at hT2
                      have hm1 := mul_bound f T.2 400000000000 4000000 (by omega) (by omega)
                      have hm2 := mul_bound t T.2 400000000000 4000000 (by omega) (by omega)
                      have hw1 : IntKind.i64.wrap (f * T.2) = f * T.2 := IntWalk.i64_in _ (by omega)
                      have hw2 : IntKind.i64.wrap (t * T.2) = t * T.2 := IntWalk.i64_in _ (by omega)
                      have q0 : W6.cell? ⟨n13, 0, none⟩ = some (.int .i64 T.1) := hbT.cell 0
                      have q1 : W6.cell? ⟨n13, 1, none⟩ = some (.int .i64 T.2) := hbT.cell 1
                      have e0 : W6.cell? ⟨w.heap.size, 0, none⟩ = some (.int .i64 f) := hk6.k.bw.cell 0
                      have e1 : W6.cell? ⟨w.heap.size, 1, none⟩ = some (.int .i64 t) := hk6.k.bw.cell 1
                      have hsz6 := hbw6.size
                      clear hm1 hm2
                      by_cases h1 : f * T.2 ≤ T.1
                      · have h1' : decide (f * T.2 ≤ T.1) = true := by simpa using h1
                        by_cases h2 : T.1 < t * T.2
                        · have h2' : decide (T.1 < t * T.2) = true := by simpa using h2
                          have HN2 := Lib.hid (show crs L f t l i k = [T] by rw [HONE.out, if_pos (by unfold insB; rw [h1', h2']; rfl)])
                          have HN3 := Lib.hid (show rowF L f t l i (k + 1) = rowF L f t l i k ++ [T] by rw [HROW.out, HN2.out])
                          go_wp2_with (at_builtin; refine wpList_append_frac rfl (.tmp 119) (.tmp 121) rfl w1.heap.size v2 (AL ++ rowF L f t l i k).length (AL ++ rowF L f t l i k) rfl (by exact hown6.alloc _) W6.heap.size rfl T (by exact Blk.new _ _ _) (by rw [List.length_append]; omega) (by simp; omega) ?_; intro v7 w7 hown7 hgrow7; have hb7 := (hbw6.alloc hsz6 _).trans (below_grown (hown6.alloc _) (by simp; omega) hgrow7); clear hgrow7)
                          go_roundw
                          case rel => exact ⟨k + 1, _, rfl, by omega, by omega, by go_num, by rw [HN3.out, ← List.append_assoc, List.length_append, List.length_singleton]; exact hown7, hb7⟩
                          case measure => simp [intOf]; omega
                        · have h2' : decide (T.1 < t * T.2) = false := by simpa using h2
                          have HN2 := Lib.hid (show crs L f t l i k = [] by rw [HONE.out, if_neg (by unfold insB; rw [h1', h2']; simp)])
                          have HN3 := Lib.hid (show rowF L f t l i (k + 1) = rowF L f t l i k by rw [HROW.out, HN2.out, List.append_nil])
                          have h3 : t * T.2 ≤ T.1 := by omega
                          clear h2
                          go_wp2_with fail
                          go_roundw
                          case rel => exact ⟨k + 1, _, rfl, by omega, by omega, by go_num, by rw [HN3.out]; exact hown6, hbw6⟩
                          case measure => simp [intOf]; omega
                      · have h1' : decide (f * T.2 ≤ T.1) = false := by simpa using h1
                        have HN2 := Lib.hid (show crs L f t l i k = [] by rw [HONE.out, if_neg (by unfold insB; rw [h1']; simp)])
                        have HN3 := Lib.hid (show rowF L f t l i (k + 1) = rowF L f t l i k by rw [HROW.out, HN2.out, List.append_nil])
                        have h3 : T.1 < f * T.2 := by omega
                        clear h1
                        go_wp2_with fail
                        go_roundw
                        case rel => exact ⟨k + 1, _, rfl, by omega, by omega, by go_num, by rw [HN3.out]; exact hown6, hbw6⟩
                        case measure => simp [intOf]; omega
        · obtain rfl : k = l.length := by omega
          go_wp2_with fail
          go_roundw
          case rel => exact ⟨i + 1, _, rfl, by omega, by go_num, by rw [HST.out]; exact hown2, hbr2⟩
          case measure => simp [intOf]; omega
    · obtain rfl : i = l.length := by omega
      have HO := Lib.hid hown
      have hbe := HK0.out.k.be.trans (hbr.mono HK0.out.k.be.size)
      clear hown
      go_wp2_with fail
      go_ret
      exact ⟨_, rfl, Rd.of_own HO.out, hbe⟩
end Go.Proofs.Ytblbfpokkpkcjaa
