/- IntervalsWeighed: the walk of the law. No condition. -/
/- slices.Equal at buckets and at windows, of one list. No condition. -/
import Derived.Test.YtgbnjbbjgkfefaaQued
import Derived.Test.YtgbnjbbjgkfefaaBkv
import Derived.Test.YtgbnjbbjgkfefaaWdv
import Derived.Deep.QuietTactic
import Derived.BigQuiet
import Derived.Test.YtgbnjbbjgkfefaaBks
import Derived.Test.YtgbnjbbjgkfefaaBko
import Derived.Test.YtgbnjbbjgkfefaaAbv
import Derived.Test.YtgbnjbbjgkfefaaAbo
import Derived.Test.YtgbnjbbjgkfefaaCmw
import Derived.Test.YtgbnjbbjgkfefaaCpo
import Derived.Test.YtgbnjbbjgkfefaaCurve
import Derived.Test.YtgbnjbbjgkfefaaAlim
import Derived.Test.YtgbnjbbjgkfefaaVbt
namespace Go.Proofs.Ytgbnjbbjgkfefaa
open Go.RowKit
set_option linter.unusedVariables false
set_option linter.unusedSimpArgs false

theorem wdw_held : Try.prog.stoodInHeld 76 = false := by kernel_rfl
theorem wdw_guard : Try.prog.eqGuardType Try.prog.depth 76 = false := by kernel_rfl
theorem wdw_fields : (Try.prog.fieldsOf 76).toList.map (fun f => (f.name, f.type, f.offset)) = [("From", 3, 0), ("To", 3, 1)] := by kernel_rfl
theorem wdw_under : Try.prog.underlying 76 = some (.struct (Try.prog.fieldsOf 76)) := by kernel_rfl
theorem wdw_eqIn9 (w : World) (x y : Int × Int) : (Op.equalIn 9999 76 (.agg #[.int .i64 x.1, .int .i64 x.2]) (.agg #[.int .i64 y.1, .int .i64 y.2])).run Try.prog w = .ok (decide (x = y)) w := by
  obtain ⟨f, g, hf, f1, f2, f3, g1, g2, g3⟩ := ffields2 wdw_fields
  obtain ⟨i0, hi0, hz0, hz1, hz2⟩ := info_parts fint_size
  obtain ⟨t, v⟩ := x
  obtain ⟨t', v'⟩ := y
  rw [run_equalIn_struct w 9998 76 _ _ wdw_under wdw_held, hf]
  simp [Op.eqFields, f1, f2, f3, g1, g2, g3, part, sizeOf, typeInfo, hi0, hz1, go_sem, Try.underlying3]
  by_cases h1 : t = t' <;> by_cases h2 : v = v' <;> simp [h1, h2, Result.andThen]
theorem wdw_eqIn0 (w : World) (x y : Int × Int) : (Op.equalIn 10000 76 (.agg #[.int .i64 x.1, .int .i64 x.2]) (.agg #[.int .i64 y.1, .int .i64 y.2])).run Try.prog w = .ok (decide (x = y)) w := by
  obtain ⟨f, g, hf, f1, f2, f3, g1, g2, g3⟩ := ffields2 wdw_fields
  obtain ⟨i0, hi0, hz0, hz1, hz2⟩ := info_parts fint_size
  obtain ⟨t, v⟩ := x
  obtain ⟨t', v'⟩ := y
  rw [run_equalIn_struct w 9999 76 _ _ wdw_under wdw_held, hf]
  simp [Op.eqFields, f1, f2, f3, g1, g2, g3, part, sizeOf, typeInfo, hi0, hz1, go_sem, Try.underlying3]
  by_cases h1 : t = t' <;> by_cases h2 : v = v' <;> simp [h1, h2, Result.andThen]
theorem wdw_neq (w : World) (x : Int × Int) : (binOp .neq 76 (.agg #[.int .i64 x.1, .int .i64 x.2]) (.agg #[.int .i64 x.1, .int .i64 x.2])).run Try.prog w = .ok (.bool false) w := by
  have h := wdw_eqIn0 w x x
  rw [run_neq_struct, h]
  simp

theorem bkt_held : Try.prog.stoodInHeld 124 = false := by kernel_rfl
theorem bkt_guard : Try.prog.eqGuardType Try.prog.depth 124 = false := by kernel_rfl
theorem bkt_fields : (Try.prog.fieldsOf 124).toList.map (fun f => (f.name, f.type, f.offset)) = [("Window", 76, 0), ("Good", 3, 2), ("Average", 57, 3), ("Minimum", 3, 5), ("Maximum", 3, 6)] := by kernel_rfl
theorem bkt_under : Try.prog.underlying 124 = some (.struct (Try.prog.fieldsOf 124)) := by kernel_rfl
theorem fields5 {fs : List Field} {a b c d e : String × TypeId × Nat} (h : fs.map (fun f => (f.name, f.type, f.offset)) = [a, b, c, d, e]) :
    ∃ f g k l m : Field, fs = [f, g, k, l, m] ∧ (f.name = a.1 ∧ f.type = a.2.1 ∧ f.offset = a.2.2) ∧ (g.name = b.1 ∧ g.type = b.2.1 ∧ g.offset = b.2.2) ∧ (k.name = c.1 ∧ k.type = c.2.1 ∧ k.offset = c.2.2) ∧ (l.name = d.1 ∧ l.type = d.2.1 ∧ l.offset = d.2.2) ∧ (m.name = e.1 ∧ m.type = e.2.1 ∧ m.offset = e.2.2) := by
  match fs, h with
  | [f, g, k, l, m], h =>
    simp only [List.map_cons, List.map_nil, List.cons.injEq, and_true] at h
    obtain ⟨h1, h2, h3, h4, h5⟩ := h
    exact ⟨f, g, k, l, m, rfl, by simp [← h1], by simp [← h2], by simp [← h3], by simp [← h4], by simp [← h5]⟩
theorem bkt_neq (w : World) (x : Bkt) : (binOp .neq 124 (.agg #[.int .i64 x.f, .int .i64 x.t, .int .i64 x.g, .int .i64 x.n, .int .i64 x.d, .int .i64 x.mn, .int .i64 x.mx]) (.agg #[.int .i64 x.f, .int .i64 x.t, .int .i64 x.g, .int .i64 x.n, .int .i64 x.d, .int .i64 x.mn, .int .i64 x.mx])).run Try.prog w = .ok (.bool false) w := by
  obtain ⟨f, g, k, l, m, hf, ⟨f1, f2, f3⟩, ⟨g1, g2, g3⟩, ⟨k1, k2, k3⟩, ⟨l1, l2, l3⟩, ⟨m1, m2, m3⟩⟩ := fields5 bkt_fields
  obtain ⟨i0, hi0, hz0, hz1, hz2⟩ := info_parts fint_size
  obtain ⟨j0, hj0, jz0, jz1, jz2⟩ := info_parts fr_size
  obtain ⟨w0, hw0, wz0, wz1, wz2⟩ := info_parts info_wdw
  have hfr := frac_eqIn9 w (x.n, x.d) (x.n, x.d)
  have hwd := wdw_eqIn9 w (x.f, x.t) (x.f, x.t)
  simp only at hfr hwd
  rw [run_neq_struct, run_equalIn_struct w 9999 124 _ _ bkt_under bkt_held, hf]
  simp [Op.eqFields, f1, f2, f3, g1, g2, g3, k1, k2, k3, l1, l2, l3, m1, m2, m3, part, sizeOf, typeInfo, hi0, hz1, hj0, jz1, hw0, wz1, go_sem, Try.underlying3, hfr, hwd, Result.andThen]

set_option maxRecDepth 100000 in
set_option maxHeartbeats 1000000 in
theorem equalW_same (v v' : Value) (l : List (Int × Int)) (w : World) (hR : RdWdw w v l) (hR' : RdWdw w v' l) :
    Calls Try.prog 76 #[v, v'] w fun e w' => e = .returned (.bool true) ∧ ∃ m, w' = w.drewN m := by
  rcases Nat.eq_zero_or_pos l.length with h0 | h0
  · obtain rfl := List.eq_nil_of_length_eq_zero h0
    obtain ⟨_, a, c, rfl, _, _, _⟩ := hR
    obtain ⟨_, a', c', rfl, _, _, _⟩ := hR'
    clear h0
    go_enter Try.func76, Try.ntmps76
    go_wp2_with fail
    refine wp_loop_rounds 1 ?_
    rw [rounds_succ]
    go_wp2_with fail
    go_ret
    exact ⟨rfl, 0, rfl⟩
  · obtain ⟨b, off, c, rfl, hc1, hc2, hblt, hcell⟩ := RdWdw.cells hR h0
    obtain ⟨b', off', c', rfl, hc1', hc2', hblt', hcell'⟩ := RdWdw.cells hR' h0
    unfold maxLen at hc2 hc2'
    have HC := Lib.hid hcell
    have HC' := Lib.hid hcell'
    have hgd := wdw_guard
    clear hcell hcell' hR hR'
    go_enter Try.func76, Try.ntmps76
    go_wp2_with fail
    go_loopw [13] (fun i wr => ∃ j : Nat, j ≤ l.length ∧ i = .int .i64 (j : Int) ∧ ∃ m, wr = w.drewN m) (fun i _ => l.length - (intOf i).toNat)
    case atStart => exact ⟨0, by omega, rfl, 0, rfl⟩
    case round =>
      obtain ⟨j, hj, rfl, m, rfl⟩ := hrel
      by_cases hlt : j < l.length
      · obtain ⟨c0, c1⟩ := HC.out j hlt
        obtain ⟨d0, d1⟩ := HC'.out j hlt
        generalize l[j] = x at *
        have hneq := fun w => wdw_neq w x
        go_wp2_with fail
        go_quiet (fail)
        go_wp2_with fail
        go_roundw
        case rel => exact ⟨j + 1, by omega, by go_num, _, rfl⟩
        case measure => simp [intOf]; omega
      · obtain rfl : j = l.length := by omega
        go_wp2_with fail
        go_ret
        exact ⟨rfl, m, rfl⟩

set_option maxRecDepth 100000 in
set_option maxHeartbeats 1000000 in
theorem equalB_same (v v' : Value) (l : List Bkt) (w : World) (hR : RdBkt w v l) (hR' : RdBkt w v' l) :
    Calls Try.prog 75 #[v, v'] w fun e w' => e = .returned (.bool true) ∧ ∃ m, w' = w.drewN m := by
  rcases Nat.eq_zero_or_pos l.length with h0 | h0
  · obtain rfl := List.eq_nil_of_length_eq_zero h0
    obtain ⟨_, a, c, rfl, _, _, _⟩ := hR
    obtain ⟨_, a', c', rfl, _, _, _⟩ := hR'
    clear h0
    go_enter Try.func75, Try.ntmps75
    go_wp2_with fail
    refine wp_loop_rounds 1 ?_
    rw [rounds_succ]
    go_wp2_with fail
    go_ret
    exact ⟨rfl, 0, rfl⟩
  · obtain ⟨b, off, c, rfl, hc1, hc2, hblt, hcell⟩ := RdBkt.cells hR h0
    obtain ⟨b', off', c', rfl, hc1', hc2', hblt', hcell'⟩ := RdBkt.cells hR' h0
    unfold maxLen at hc2 hc2'
    have HC := Lib.hid hcell
    have HC' := Lib.hid hcell'
    have hgd := bkt_guard
    clear hcell hcell' hR hR'
    go_enter Try.func75, Try.ntmps75
    go_wp2_with fail
    go_loopw [13] (fun i wr => ∃ j : Nat, j ≤ l.length ∧ i = .int .i64 (j : Int) ∧ ∃ m, wr = w.drewN m) (fun i _ => l.length - (intOf i).toNat)
    case atStart => exact ⟨0, by omega, rfl, 0, rfl⟩
    case round =>
      obtain ⟨j, hj, rfl, m, rfl⟩ := hrel
      by_cases hlt : j < l.length
      · obtain ⟨c0, c1, c2, c3, c4, c5, c6⟩ := HC.out j hlt
        obtain ⟨d0, d1, d2, d3, d4, d5, d6⟩ := HC'.out j hlt
        generalize l[j] = x at *
        have hneq := fun w => bkt_neq w x
        go_wp2_with fail
        go_quiet (fail)
        go_wp2_with fail
        go_roundw
        case rel => exact ⟨j + 1, by omega, by go_num, _, rfl⟩
        case measure => simp [intOf]; omega
      · obtain rfl : j = l.length := by omega
        go_wp2_with fail
        go_ret
        exact ⟨rfl, m, rfl⟩
end Go.Proofs.Ytgbnjbbjgkfefaa
namespace Go.Proofs.Ytgbnjbbjgkfefaa
open Go.RowKit
set_option linter.unusedVariables false
set_option linter.unusedSimpArgs false

theorem orOf4 (a b c d : Int) : orOf [a, b, c, d] = orE (orE a (orE b c)) d := by
  by_cases h1 : a = 0 <;> by_cases h2 : b = 0 <;> by_cases h3 : c = 0 <;> by_cases h4 : d = 0 <;> simp [orOf, orE, h1, h2, h3, h4]
theorem or4_any (w : World) (b : Nat) (x y z u : Int) (hB : Blk w b 34 #[.int .i64 x, .int .i64 y, .int .i64 z, .int .i64 u]) :
    Calls Try.prog 17 #[.slice (some ⟨b, 0, none⟩) 4 4] w fun e w' => e = .returned (.int .i64 (orOf [x, y, z, u])) ∧ w = w' :=
  or_any w b [x, y, z, u] hB (by simp)
theorem span2_any (n : Int) (w : World) : Calls Try.prog 71 #[.int .i64 n, .int .i64 0, .int .i64 2000000] w fun e w' => e = .returned (.int .i64 (if inB n 0 2000000 = false then 1 else 0)) ∧ w = w' := by
  have hsp : spanErr n 0 2000000 = if inB n 0 2000000 = false then 1 else 0 := by unfold spanErr; cases inB n 0 2000000 <;> rfl
  rw [← hsp]
  exact spanFault_any n 0 2000000 w

/-- What stays readable: both series, the window. -/
structure KI (w0 : World) (n : Nat) (f t : Int) (va vb : Value) (la lb : List Smp) (w : World) : Prop where
  km : KM w0 n f t va la w
  rb : RdS w 71 vb lb
/-- And the program's buckets and windows. -/
structure KJ (w0 : World) (n : Nat) (f t : Int) (va vb : Value) (la lb : List Smp) (ub : Value) (bk : List Bkt) (uw : Value) (ab : List (Int × Int)) (w : World) : Prop where
  ki : KI w0 n f t va vb la lb w
  rk : RdBkt w ub bk
  rw' : RdWdw w uw ab
section
variable {w0 w w' : World} {n : Nat} {f t : Int} {va vb : Value} {la lb : List Smp} {ub uw : Value} {bk : List Bkt} {ab : List (Int × Int)}
theorem KI.step (hb : Below w.heap.size w w') (h : KI w0 n f t va vb la lb w) : KI w0 n f t va vb la lb w' := ⟨h.km.step hb, Rd.below h.rb hb⟩
theorem KI.drew (h : KI w0 n f t va vb la lb w) : KI w0 n f t va vb la lb w.drew := KI.step (show Below w.heap.size w w.drew from ⟨rfl, rfl, rfl, Nat.le_refl _, fun _ _ => rfl⟩) h
theorem KI.alloc (h : KI w0 n f t va vb la lb w) (o : Obj) : KI w0 n f t va vb la lb (w.alloc o) := KI.step ((Below.refl _ w).alloc (Nat.le_refl _) o) h
theorem KI.rs (h : KI w0 n f t va vb la lb w) : RdS w 71 va la := h.km.rs
theorem KJ.step (hb : Below w.heap.size w w') (h : KJ w0 n f t va vb la lb ub bk uw ab w) : KJ w0 n f t va vb la lb ub bk uw ab w' := ⟨h.ki.step hb, Rd.below h.rk hb, Rd.below h.rw' hb⟩
theorem KJ.drew (h : KJ w0 n f t va vb la lb ub bk uw ab w) : KJ w0 n f t va vb la lb ub bk uw ab w.drew := KJ.step (show Below w.heap.size w w.drew from ⟨rfl, rfl, rfl, Nat.le_refl _, fun _ _ => rfl⟩) h
theorem KJ.drewN (m : Nat) (h : KJ w0 n f t va vb la lb ub bk uw ab w) : KJ w0 n f t va vb la lb ub bk uw ab (w.drewN m) := KJ.step (show Below w.heap.size w (w.drewN m) from ⟨rfl, rfl, rfl, Nat.le_refl _, fun _ _ => rfl⟩) h
theorem KJ.alloc (h : KJ w0 n f t va vb la lb ub bk uw ab w) (o : Obj) : KJ w0 n f t va vb la lb ub bk uw ab (w.alloc o) := KJ.step ((Below.refl _ w).alloc (Nat.le_refl _) o) h
theorem KJ.ra (h : KJ w0 n f t va vb la lb ub bk uw ab w) : RdS w 71 va la := h.ki.km.rs
theorem KJ.rb (h : KJ w0 n f t va vb la lb ub bk uw ab w) : RdS w 71 vb lb := h.ki.rb
end

set_option maxRecDepth 100000 in
set_option maxHeartbeats 4000000 in
theorem intervals_walk (w : World) (L : List Int) (A : Option Addr) (cap : Nat) (hc : ∀ i, i < L.length → ∃ ad : Addr, A = some ad ∧ ad.block < w.heap.size ∧ w.cell? (ad.add i) = some (.int .i64 (L.getD i 0)))
    (hl : L.length ≤ 9223372036854775807) (hwf : ∀ i, -9223372036854775808 ≤ L.getD i 0 ∧ L.getD i 0 ≤ 9223372036854775807) :
    Calls Try.prog 8 #[.slice A L.length cap] w fun e w' => e = .returned (.bool true) ∧ Below w.heap.size w w' := by
  have hS0 : Strm (w.alloc (.cells #[.slice A L.length cap, .int .i64 0] 25)) w.heap.size L A cap 0 :=
    ⟨heap_alloc_new w _, fun i hi => by
      obtain ⟨ad, e, hb, hcell⟩ := hc i hi
      exact ⟨ad, e, hb, by rw [World.cell?_alloc_lt _ _ _ (by rw [addr_add_block]; exact hb)]; exact hcell⟩, hl, hwf⟩
  have HS0 := Lib.hid hS0
  have hsz0 : w.heap.size < (w.alloc (.cells #[.slice A L.length cap, .int .i64 0] 25)).heap.size := by simp
  have HB0 := Lib.hid ((Below.refl w.heap.size w).alloc (Nat.le_refl _) (.cells #[.slice A L.length cap, .int .i64 0] 25))
  clear hS0 hc hwf
  go_enter Try.func8, Try.ntmps8
  go_upto_region 2 with fail
  generalize w.alloc (.cells #[.slice A L.length cap, .int .i64 0] 25) = W at *
  go_wp2_with fail
  refine (curve_went _ w.heap.size L A cap 0 9 HS0.out (by omega) (by omega)).mono ?_
  rintro e w1 ⟨va, rfl, la, k1, hown, hlen, hnear, hk1, hw1⟩
  go_wp2_with fail
  refine (curve_went _ w.heap.size L A cap k1 9 hw1.1 (by omega) (by omega)).mono ?_
  rintro e w2 ⟨vb, rfl, lb, k2, hownb, hlenb, hnearb, hk2, hw2⟩
  have hown2 := own_but hw1.1 (by decide) hown hw2.2
  have hb2 := hw1.2.trans hw2.2
  have hsz1 := hw1.2.size
  clear hown hw1
  go_wp2_with fail
  refine (aSpan_went _ w.heap.size L A cap k2 hw2.1 (by omega)).mono ?_
  rintro e w3 ⟨f, t, k3, rfl, hf, ht, hk3, hw3⟩
  have hown3 := own_but hw2.1 (by decide) hown2 hw3.2
  have hownb3 := own_but hw2.1 (by decide) hownb hw3.2
  have hb3 := hb2.trans hw3.2
  clear hown2 hownb hw2 hb2
  go_wp2_with fail
  refine (pick_new _ _ w.heap.size L A cap k3 [1, 7, 20, 0] hw3.1 rfl (by omega) (by simp)).mono ?_
  rintro e w4 ⟨rfl, hw4⟩
  have hm4 := pk_mem [1, 7, 20, 0] L k3 (by simp)
  simp only [List.mem_cons, List.not_mem_nil, or_false] at hm4
  generalize pk [1, 7, 20, 0] L k3 = ev at *
  have hev : 0 ≤ ev ∧ ev ≤ 86400001 := by omega
  have hown4 := own_but hw3.1 (by decide) hown3 hw4.2
  have hownb4 := own_but hw3.1 (by decide) hownb3 hw4.2
  have hb4 := hb3.trans hw4.2
  clear hm4 hown3 hownb3 hw3 hb3
  go_wp2_with fail
  refine (aLimit_went _ w.heap.size L A cap (k3 + 1) hw4.1 (by omega)).mono ?_
  rintro e w5 ⟨M, rfl, hM, hw5⟩
  have hown5 := own_but hw4.1 (by decide) hown4 hw5.2
  have hownb5 := own_but hw4.1 (by decide) hownb4 hw5.2
  have hb5 := hb4.trans hw5.2
  clear hown4 hownb4 hw4 hb4
  go_wp2_with fail
  refine (pick_new _ _ w.heap.size L A cap (k3 + 1 + 2) [0, 1, 3, -1] hw5.1 rfl (by omega) (by simp)).mono ?_
  rintro e w6 ⟨rfl, hw6⟩
  have hm6 := pk_mem [0, 1, 3, -1] L (k3 + 1 + 2) (by simp)
  simp only [List.mem_cons, List.not_mem_nil, or_false] at hm6
  generalize pk [0, 1, 3, -1] L (k3 + 1 + 2) = Wi at *
  have hwi : -4000000000 ≤ Wi ∧ Wi ≤ 4000000000 := by omega
  have hown6 := own_but hw5.1 (by decide) hown5 hw6.2
  have hownb6 := own_but hw5.1 (by decide) hownb5 hw6.2
  have hb6 := hb5.trans hw6.2
  clear hm6 hown5 hownb5 hw5 hw6 hb5
  have hsz6 := hb6.size
  have hk0 : KI w w6.heap.size f t va vb la lb (w6.alloc (.cells #[.int .i64 f, .int .i64 t] 76)) :=
    ⟨⟨Rd.alloc (Rd.of_own hown6) _, Blk.new _ _ _, HB0.out.trans ((butBelow2 hb6 (Nat.le_refl _) (Nat.le_of_lt hsz0)).alloc (by omega) _)⟩, Rd.alloc (Rd.of_own hownb6) _⟩
  clear hown6 hownb6 hb6 hnear hnearb
  go_upto_region 3 with fail
  generalize w6.alloc (.cells #[.int .i64 f, .int .i64 t] 76) = w7 at *
  generalize w6.heap.size = n at *
  have e0 := hk0.km.bw.cell 0
  have e1 := hk0.km.bw.cell 1
  go_region_held3 (fun w' => w'.cell? ⟨n, 0, none⟩ = some (.int .i64 f) ∧ w'.cell? ⟨n, 1, none⟩ = some (.int .i64 t))
    (first | exact ⟨hk2.km.bw.cell 0, hk2.km.bw.cell 1⟩ | exact ⟨hkk.km.bw.cell 0, hkk.km.bw.cell 1⟩ | exact ⟨e0, e1⟩ | go_keep)
    (first
    | (go_at_call 18; (with_reducible refine (seriesFault_any va la _ ?_).mono ?_); (focus (exact KI.rs (by first | assumption | exact KI.drew (by assumption)))); rintro e wk ⟨rfl, hbk⟩; have hkk := KI.step hbk (by first | assumption | exact KI.drew (by assumption)); clear hbk)
    | (go_at_call 49; (with_reducible refine (windowFault_any f t _).mono ?_); rintro e wk ⟨rfl, hbk⟩; have hkk := KI.step hbk (by first | assumption | exact KI.drew (by assumption)); clear hbk)
    | (go_at_call 17; refine (or2_any _ _ (serErr la) (winErr f t) (by exact Blk.new _ _ _)).mono ?_; rintro e wj ⟨rfl, rfl⟩; have hk2 := hkk.alloc (.cells #[.int .i64 (serErr la), .int .i64 (winErr f t)] 34)))
  rw [orOf2]
  clear e0 e1 hkk hk0
  generalize wk.alloc (.cells #[.int .i64 (serErr la), .int .i64 (winErr f t)] 34) = wz at *
  have e0 := hk2.km.bw.cell 0
  have e1 := hk2.km.bw.cell 1
  go_wp2_with fail
  refine (buckets_any va la f t ev _ hk2.rs hev).mono ?_
  rintro e wa ⟨ub, rfl, hrk, hba⟩
  have hka := KI.step hba hk2
  clear e0 e1 hba hk2
  have e0 := hka.km.bw.cell 0
  have e1 := hka.km.bw.cell 1
  go_wp2_with fail
  refine (above_any va la f t M _ hka.rs (by omega)).mono ?_
  rintro e wb ⟨uw, rfl, hrw, hbb⟩
  have hkb : KJ w n f t va vb la lb ub (bktR la f t ev) uw (aboR la f t M).1 wb := ⟨KI.step hbb hka, Rd.below hrk hbb, hrw⟩
  clear e0 e1 hbb hka hrk hrw
  have e0 := hkb.ki.km.bw.cell 0
  have e1 := hkb.ki.km.bw.cell 1
  go_wp2_with fail
  refine (compare_any va vb la lb f t Wi _ hkb.ra hkb.rb hwi).mono ?_
  rintro e wc ⟨rfl, hbc⟩
  have hkc := KJ.step hbc hkb
  clear e0 e1 hbc hkb
  have e0 := hkc.ki.km.bw.cell 0
  have e1 := hkc.ki.km.bw.cell 1
  have HPE := Lib.hid (show parE la f t ev = orE (orE (serErr la) (winErr f t)) (evE f t ev) from rfl)
  have HBR := Lib.hid (show bktR la f t ev = if parE la f t ev = 0 then bktTo la f t ev (ptsCnt f t ev) else [] from rfl)
  have HAE := Lib.hid (show aboE la f t M = orE (orE (serErr la) (winErr f t)) (if inB M (-1000000) 1000000 = false then 1 else 0) from rfl)
  have HAR := Lib.hid (show aboR la f t M = if aboE la f t M = 0 then aboV la f t M else ([], 0) from rfl)
  have HCE := Lib.hid (show cmpE la lb f t Wi = orE (orE (serErr la) (orE (serErr lb) (winErr f t))) (if inB Wi 0 2000000 = false then 1 else 0) from rfl)
  have HCR := Lib.hid (show cmpVR la lb f t Wi = if cmpE la lb f t Wi = 0 then cmpV la lb f t Wi else (0, 0) from rfl)
  generalize parE la f t ev = PE at *
  generalize bktR la f t ev = BR at *
  generalize aboE la f t M = AE at *
  generalize aboR la f t M = AR at *
  generalize cmpE la lb f t Wi = CE at *
  generalize cmpVR la lb f t Wi = CR at *
  go_upto_region 7 with fail
  go_cut [19, 20, 21] (fun s19 s20 s21 wx => s19 = .int .i64 (orE (serErr la) (winErr f t)) ∧ s20 = .int .i64 AE ∧ s21 = .int .i64 CE ∧ KJ w n f t va vb la lb ub BR uw AR.1 wx)
  case first =>
    have HLF := Lib.hid (fun w => limitFault_any M w)
    have HSP := Lib.hid (fun w => span2_any Wi w)
    generalize (if inB M (-1000000) 1000000 = false then (1 : Int) else 0) = X1 at *
    generalize (if inB Wi 0 2000000 = false then (1 : Int) else 0) = X2 at *
    go_region_held3 (fun w' => w'.cell? ⟨n, 0, none⟩ = some (.int .i64 f) ∧ w'.cell? ⟨n, 1, none⟩ = some (.int .i64 t))
      (first | with_reducible exact ⟨g0, g1⟩ | with_reducible exact ⟨e0, e1⟩ | go_keep)
      (first
      | (go_at_call 70; (with_reducible refine (HLF.out _).mono ?_); rintro e wk ⟨rfl, rfl⟩)
      | (go_at_call 71; (with_reducible refine (HSP.out _).mono ?_); rintro e wk ⟨rfl, rfl⟩)
      | (go_at_call 18; (with_reducible refine (seriesFault_any va la _ ?_).mono ?_); (focus (exact KJ.ra (by repeat (first | with_reducible assumption | with_reducible apply KJ.alloc | with_reducible apply KJ.drew)))); rintro e wk ⟨rfl, hbk⟩; have hkk := KJ.step hbk (by repeat (first | with_reducible assumption | with_reducible apply KJ.alloc | with_reducible apply KJ.drew)); have g0 : World.cell? _ ⟨n, 0, none⟩ = some (.int .i64 f) := hkk.ki.km.bw.cell 0; have g1 : World.cell? _ ⟨n, 1, none⟩ = some (.int .i64 t) := hkk.ki.km.bw.cell 1; clear hbk)
      | (go_at_call 18; (with_reducible refine (seriesFault_any vb lb _ ?_).mono ?_); (focus (exact KJ.rb (by repeat (first | with_reducible assumption | with_reducible apply KJ.alloc | with_reducible apply KJ.drew)))); rintro e wk ⟨rfl, hbk⟩; have hkk := KJ.step hbk (by repeat (first | with_reducible assumption | with_reducible apply KJ.alloc | with_reducible apply KJ.drew)); have g0 : World.cell? _ ⟨n, 0, none⟩ = some (.int .i64 f) := hkk.ki.km.bw.cell 0; have g1 : World.cell? _ ⟨n, 1, none⟩ = some (.int .i64 t) := hkk.ki.km.bw.cell 1; clear hbk)
      | (go_at_call 49; (with_reducible refine (windowFault_any f t _).mono ?_); rintro e wk ⟨rfl, hbk⟩; have hkk := KJ.step hbk (by repeat (first | with_reducible assumption | with_reducible apply KJ.alloc | with_reducible apply KJ.drew)); have g0 : World.cell? _ ⟨n, 0, none⟩ = some (.int .i64 f) := hkk.ki.km.bw.cell 0; have g1 : World.cell? _ ⟨n, 1, none⟩ = some (.int .i64 t) := hkk.ki.km.bw.cell 1; clear hbk)
      | (go_at_call 17; (with_reducible refine (or2_any _ _ (orE (serErr la) (winErr f t)) X1 ?_).mono ?_); (focus ((repeat (first | (with_reducible refine blkNewE _ _ _ _ ?_; (focus (simp; done))) | with_reducible apply Blk.drew | with_reducible apply Blk.alloc)); done)); rintro e wj ⟨rfl, rfl⟩)
      | (go_at_call 17; (with_reducible refine (or4_any _ _ (serErr la) (serErr lb) (winErr f t) X2 ?_).mono ?_); (focus ((repeat (first | (with_reducible refine blkNewE _ _ _ _ ?_; (focus (simp; done))) | with_reducible apply Blk.drew | with_reducible apply Blk.alloc)); done)); rintro e wj ⟨rfl, rfl⟩))
    all_goals
      go_wp2_with fail
      go_meet
      exact ⟨rfl, vi (by rw [HAE.out, orOf2]), vi (by rw [HCE.out, orOf4]), by repeat (first | with_reducible assumption | with_reducible apply KJ.alloc | with_reducible apply KJ.drew)⟩
  case rest =>
    obtain ⟨rfl, rfl, rfl, hkd⟩ := hcut
    clear hkc e0 e1
    have e0 := hkd.ki.km.bw.cell 0
    have e1 := hkd.ki.km.bw.cell 1
    have HWE := Lib.hid (fun h : orE (serErr la) (winErr f t) = 0 => winErr_ok (orE_zero h).2)
    have HSE := Lib.hid (fun h : orE (serErr la) (winErr f t) = 0 => (orE_zero h).1)
    have HSB := Lib.hid (fun h : orE (serErr la) (orE (serErr lb) (winErr f t)) = 0 => (And.intro (orE_zero h).1 (And.intro (orE_zero (orE_zero h).2).1 (winErr_ok (orE_zero (orE_zero h).2).2))))
    generalize orE (serErr la) (winErr f t) = F at *
    go_upto_if 91 with fail
    go_cut [19] (fun s19 wx => s19 = .int .i64 PE ∧ KJ w n f t va vb la lb ub BR uw AR.1 wx)
    case first =>
      by_cases hF : F = 0
      · have hF' : (F == 0) = true := by simpa using hF
        have HF := Lib.hid hF
        clear hF
        go_wp2_with fail
        refine (everyFault_any f t ev _ (HWE.out HF.out) hev).mono ?_
        rintro e wf ⟨rfl, hbf⟩
        have hkf := KJ.step hbf hkd
        go_wp2_with fail
        go_meet
        exact ⟨vi (by rw [HPE.out, orE_left HF.out]), hkf⟩
      · have hF' : (F == 0) = false := by simpa using hF
        have HF := Lib.hid hF
        clear hF
        go_wp2_with fail
        go_meet
        exact ⟨vi (by rw [HPE.out, orE_first HF.out]), hkd⟩
    case rest =>
      obtain ⟨rfl, hke⟩ := hcut
      clear hkd e0 e1
      have e0 := hke.ki.km.bw.cell 0
      have e1 := hke.ki.km.bw.cell 1
      go_upto_if 96 with fail
      go_cut [22] (fun s22 wx => ∃ vq, vq = s22 ∧ RdBkt wx vq BR ∧ KJ w n f t va vb la lb ub BR uw AR.1 wx)
      case first =>
        by_cases hP : PE = 0
        · have hP' : (PE == 0) = true := by simpa using hP
          have hz := orE_zero (HPE.out.symm.trans hP)
          have hE3 : (1 ≤ ev ∧ ev ≤ 86400000) ∧ ptsCnt f t ev ≤ 5000 := by
            have h2 := hz.2
            unfold evE at h2
            cases h : inB ev 1 86400000
            · rw [h] at h2; simp at h2
            · have h3 := inB_true.1 h
              rw [h] at h2
              have h4 := quo_large (t - f) ev h3.1
              have h5 : ¬ 5000 * ev < t - f := by intro h6; simp [h6] at h2
              refine ⟨h3, ?_⟩
              unfold ptsCnt
              omega
          have HX := Lib.hid (show BR = bktTo la f t ev (ptsCnt f t ev) by rw [HBR.out, if_pos hP])
          have HZ := Lib.hid (And.intro hz.1 hE3)
          clear hP hz hE3
          go_wp2_with fail
          refine (bucketsOf_any va la f t ev _ hke.ra (HSE.out HZ.out.1) (HWE.out HZ.out.1) HZ.out.2.1 HZ.out.2.2).mono ?_
          rintro e wg ⟨vq, rfl, hrq, hbg⟩
          rw [← HX.out] at hrq
          have hkg := KJ.step hbg hke
          go_wp2_with fail
          go_meet
          exact ⟨_, rfl, hrq, hkg⟩
        · have hP' : (PE == 0) = false := by simpa using hP
          have HX := Lib.hid (show BR = [] by rw [HBR.out, if_neg hP])
          clear hP
          go_wp2_with fail
          go_meet
          exact ⟨_, rfl, by rw [HX.out]; exact Rd.nil _ _ _, hke⟩
      case rest =>
        obtain ⟨vq, rfl, hrq, hkg⟩ := hcut
        clear hke e0 e1
        have e0 := hkg.ki.km.bw.cell 0
        have e1 := hkg.ki.km.bw.cell 1
        go_upto_if 102 with fail
        go_cut [23, 24] (fun s23 s24 wx => ∃ vx, vx = s23 ∧ s24 = .int .i64 AR.2 ∧ RdWdw wx vx AR.1 ∧ RdBkt wx vq BR ∧ KJ w n f t va vb la lb ub BR uw AR.1 wx)
        case first =>
          by_cases hP : AE = 0
          · have hP' : (AE == 0) = true := by simpa using hP
            have hz := orE_zero (HAE.out.symm.trans hP)
            have HX := Lib.hid (show AR = aboV la f t M by rw [HAR.out, if_pos hP])
            have HZ := Lib.hid hz.1
            clear hP hz
            go_wp2_with fail
            refine (aboveOf_any va la f t M _ hkg.ra (HSE.out HZ.out) (HWE.out HZ.out)).mono ?_
            rintro e wh ⟨vx, rfl, hrx, hbh⟩
            rw [← HX.out] at hrx
            rw [← HX.out]
            have hkh := KJ.step hbh hkg
            have hrq2 : RdBkt _ vq BR := Rd.below hrq hbh
            go_wp2_with fail
            go_meet
            exact ⟨_, rfl, rfl, hrx, hrq2, hkh⟩
          · have hP' : (AE == 0) = false := by simpa using hP
            have HX := Lib.hid (show AR = ([], 0) by rw [HAR.out, if_neg hP])
            clear hP
            go_wp2_with fail
            go_meet
            exact ⟨_, rfl, by rw [HX.out], by rw [HX.out]; exact Rd.nil _ _ _, hrq, hkg⟩
        case rest =>
          obtain ⟨vx, rfl, rfl, hrx, hrq2, hkh⟩ := hcut
          clear hkg hrq e0 e1
          have e0 := hkh.ki.km.bw.cell 0
          have e1 := hkh.ki.km.bw.cell 1
          go_upto_if 111 with fail
          go_cut [25, 26] (fun s25 s26 wx => s25 = .int .i64 CR.1 ∧ s26 = .int .i64 CR.2 ∧ RdWdw wx vx AR.1 ∧ RdBkt wx vq BR ∧ KJ w n f t va vb la lb ub BR uw AR.1 wx)
          case first =>
            by_cases hP : CE = 0
            · have hP' : (CE == 0) = true := by simpa using hP
              have hz := HSB.out (orE_zero (HCE.out.symm.trans hP)).1
              have HX := Lib.hid (show CR = cmpV la lb f t Wi by rw [HCR.out, if_pos hP])
              have HZ := Lib.hid hz
              clear hP hz
              go_wp2_with fail
              refine (comparedOf_any va vb la lb f t Wi _ hkh.ra hkh.rb HZ.out.1 HZ.out.2.1 HZ.out.2.2).mono ?_
              rintro e wi ⟨rfl, hbi⟩
              rw [← HX.out]
              have hki := KJ.step hbi hkh
              have hrq3 : RdBkt _ vq BR := Rd.below hrq2 hbi
              have hrx3 : RdWdw _ vx AR.1 := Rd.below hrx hbi
              go_wp2_with fail
              go_meet
              exact ⟨rfl, rfl, hrx3, hrq3, hki⟩
            · have hP' : (CE == 0) = false := by simpa using hP
              have HX := Lib.hid (show CR = (0, 0) by rw [HCR.out, if_neg hP])
              clear hP
              go_wp2_with fail
              go_meet
              exact ⟨by rw [HX.out], by rw [HX.out], hrx, hrq2, hkh⟩
          case rest =>
            obtain ⟨rfl, rfl, hrx3, hrq3, hki⟩ := hcut
            clear hkh hrx hrq2 e0 e1 HPE HBR HAE HAR HCE HCR
            obtain ⟨AL, AS⟩ := AR
            obtain ⟨C1, C2⟩ := CR
            have h1 : (PE == PE) = true := by simp
            have h2 : (AE == AE) = true := by simp
            have h3 : (AS == AS) = true := by simp
            have h4 : (CE == CE) = true := by simp
            have h5 : (C1 == C1) = true := by simp
            have h6 : (C2 == C2) = true := by simp
            have hrk := hki.rk
            have hrw := hki.rw'
            go_wp2_with fail
            refine (equalB_same _ _ BR _ hrk hrq3).mono ?_
            rintro e wk ⟨rfl, mk, rfl⟩
            have hkn := KJ.drewN mk hki
            have hrx4 : RdWdw _ vx AL := Rd.below hrx3 (show Below _ _ (World.drewN _ mk) from ⟨rfl, rfl, rfl, Nat.le_refl _, fun _ _ => rfl⟩)
            have hrw4 := hkn.rw'
            go_wp2_with fail
            refine (equalW_same _ _ AL _ hrw4 hrx4).mono ?_
            rintro e wl ⟨rfl, ml, rfl⟩
            have hko := KJ.drewN ml hkn
            go_wp2_with fail
            refine (queried_any _).mono ?_
            rintro e wj ⟨rfl, hbj⟩
            have hkj := KJ.step hbj (KJ.drewN (mk + ml) hki)
            go_wp2_with fail
            go_ret
            exact ⟨rfl, hkj.ki.km.be⟩
end Go.Proofs.Ytgbnjbbjgkfefaa
