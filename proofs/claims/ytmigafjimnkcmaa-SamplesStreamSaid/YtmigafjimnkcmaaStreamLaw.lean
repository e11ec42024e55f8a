/- SamplesStream: the walk of the law. No condition. -/
import Derived.Test.YtmigafjimnkcmaaPressed
import Derived.Test.YtmigafjimnkcmaaCmpx
import Derived.Test.YtmigafjimnkcmaaCmpf
import Derived.Test.YtmigafjimnkcmaaCmpd
import Derived.Test.YtmigafjimnkcmaaChob
import Derived.Test.YtmigafjimnkcmaaCurve
import Derived.Test.YtmigafjimnkcmaaDoor
import Derived.Test.YtmigafjimnkcmaaTwoa
namespace Go.Proofs.Ytmigafjimnkcmaa
open Go.RowKit
set_option linter.unusedVariables false
set_option linter.unusedSimpArgs false

/-- Below block B only block g has turned. -/
structure Bt (B g : Nat) (w w' : World) : Prop where
  os : w'.os = w.os
  tape : w'.tape = w.tape
  output : w'.output = w.output
  size : w.heap.size ≤ w'.heap.size
  block : ∀ b, b < B → b ≠ g → w'.heap[b]? = w.heap[b]?
theorem Bt.refl (B g : Nat) (w : World) : Bt B g w w := ⟨rfl, rfl, rfl, Nat.le_refl _, fun _ _ _ => rfl⟩
theorem Bt.trans {B g : Nat} {a b c : World} (h : Bt B g a b) (k : Bt B g b c) : Bt B g a c :=
  ⟨k.os.trans h.os, k.tape.trans h.tape, k.output.trans h.output, Nat.le_trans h.size k.size, fun i h1 h2 => (k.block i h1 h2).trans (h.block i h1 h2)⟩
theorem Bt.of_below {B g : Nat} {w w' : World} (h : Below B w w') : Bt B g w w' := ⟨h.os, h.tape, h.output, h.size, fun b h1 _ => h.block b h1⟩
theorem Bt.of_but {B g : Nat} {w w' : World} (h : But g w w') (hB : B ≤ w.heap.size) : Bt B g w w' := ⟨h.os, h.tape, h.output, h.size, fun b h1 h2 => h.block b (by omega) h2⟩

theorem butBelow {w0 w w' : World} {g : Nat} (h : But g w w') (hg : w0.heap.size ≤ g) (hs : w0.heap.size ≤ w.heap.size) : Below w0.heap.size w w' :=
  ⟨h.os, h.tape, h.output, h.size, fun i hi => h.block i (by omega) (by omega)⟩
theorem Bt.below {W w w0 : World} {B g : Nat} (h : Bt B g W w) (hb : Below w0.heap.size w0 W) (hg : w0.heap.size ≤ g) (hB : w0.heap.size ≤ B) : Below w0.heap.size w0 w :=
  hb.trans ⟨h.os, h.tape, h.output, h.size, fun i hi => h.block i (by omega) (by omega)⟩
theorem own_zero {w : World} {base size : Nat} {v : Value} {e : TypeId} {xs : List Value} (h : w.ownsRow base e size v 0 xs) : ∃ pa ca, v = .slice pa 0 ca := by
  rcases h.2 with ⟨rfl, _⟩ | ⟨g, cap, cur, rfl, _⟩
  · exact ⟨_, _, rfl⟩
  · exact ⟨_, _, rfl⟩
theorem RdS.one (w : World) (x : Smp) : RdS (w.alloc (.cells #[.int .i64 x.t, .int .i64 x.v, .int .i64 x.q] 51)) 51 (.slice (some ⟨w.heap.size, 0, none⟩) 1 1) [x] := RdS.lit w [x] (by simp)

/-- What holds at each place of a round: the stream, both lists, the compressor. -/
structure SG (W : World) (g c : Nat) (L : List Int) (A : Option Addr) (cap k : Nat) (d m : Int) (vd va : Value) (ld la lc : List Smp) (w : World) : Prop where
  bt : Bt W.heap.size g W w
  st : Strm w g L A cap k
  gB : g < W.heap.size
  od : w.ownsRow W.heap.size 51 3 vd ld.length (cellsOf ld)
  oa : w.ownsRow W.heap.size 51 3 va la.length (cellsOf la)
  ne : ∀ b, vd.ownBlock = some b → va.ownBlock ≠ some b
  cs : CompSt W.heap.size w c d m lc
theorem own_neBlock {w : World} {base size n : Nat} {v : Value} {e : TypeId} {xs : List Value} (h : w.ownsRow base e size v n xs) {b : Nat} (hb : b < base) : v.ownBlock ≠ some b := fun hh => by
  have := (h.lt b hh).1; omega
theorem own_ltSize {w : World} {base size n : Nat} {v : Value} {e : TypeId} {xs : List Value} (h : w.ownsRow base e size v n xs) {b : Nat} (hb : v.ownBlock = some b) : b < w.heap.size := (h.lt b hb).2
theorem ne_none {v u : Value} (h : ∀ b, v.ownBlock = some b → u.ownBlock ≠ some b) : u.ownBlock = none ∨ u.ownBlock ≠ v.ownBlock := by
  cases hu : u.ownBlock with
  | none => exact .inl rfl
  | some b => exact .inr fun e => h b e.symm hu
section
variable {W w w' : World} {g c : Nat} {L : List Int} {A : Option Addr} {cap k k' : Nat} {d m : Int} {vd va v' : Value} {ld la lc l' : List Smp}
theorem SG.size (h : SG W g c L A cap k d m vd va ld la lc w) : W.heap.size ≤ w.heap.size := h.bt.size
theorem SG.below (h : SG W g c L A cap k d m vd va ld la lc w) (hb : Below w.heap.size w w') : SG W g c L A cap k d m vd va ld la lc w' :=
  ⟨h.bt.trans (.of_below (hb.mono h.size)), h.st.below hb (by have := h.gB; have := h.size; omega), h.gB, own_keep h.od fun b _ _ hh => hb.block b (lt_of_heap hh), own_keep h.oa fun b _ _ hh => hb.block b (lt_of_heap hh), h.ne, h.cs.below hb⟩
theorem SG.alloc (h : SG W g c L A cap k d m vd va ld la lc w) (o : Obj) : SG W g c L A cap k d m vd va ld la lc (w.alloc o) := h.below ((Below.refl _ w).alloc (Nat.le_refl _) o)
theorem SG.drewN (h : SG W g c L A cap k d m vd va ld la lc w) (n : Nat) : SG W g c L A cap k d m vd va ld la lc (w.drewN n) := h.below (w' := w.drewN n) (show Below w.heap.size w (w.drewN n) from ⟨rfl, rfl, rfl, Nat.le_refl _, fun _ _ => rfl⟩)
theorem SG.went (h : SG W g c L A cap k d m vd va ld la lc w) (hw : Went w g L A cap k' w') : SG W g c L A cap k' d m vd va ld la lc w' :=
  ⟨h.bt.trans (.of_but hw.2 h.size), hw.1, h.gB, own_but h.st (by decide) h.od hw.2, own_but h.st (by decide) h.oa hw.2, h.ne, h.cs.but hw.2 h.gB⟩
theorem SG.cg (h : SG W g c L A cap k d m vd va ld la lc w) (hc : Cg W.heap.size w w') (hs : CompSt W.heap.size w' c d m l') : SG W g c L A cap k d m vd va ld la l' w' :=
  ⟨h.bt.trans (.of_below hc.bl), h.st.below hc.bl h.gB, h.gB, hc.own h.od (by decide) (by decide), hc.own h.oa (by decide) (by decide), h.ne, hs⟩
theorem SG.growD (h : SG W g c L A cap k d m vd va ld la lc w) (ho : w'.ownsRow W.heap.size 51 3 v' l'.length (cellsOf l')) (hg : w.grownBy w' vd.ownBlock) (hw : ∀ b, v'.ownBlock = some b → vd.ownBlock = some b ∨ w.heap.size ≤ b) :
    SG W g c L A cap k d m v' va l' la lc w' :=
  ⟨h.bt.trans (.of_below (below_grown h.od h.size hg)), h.st.below (below_grown h.od h.size hg) h.gB, h.gB, ho, h.oa.kept hg (ne_none h.ne), fun b hb => by
    rcases hw b hb with h1 | h1
    · exact h.ne b h1
    · exact fun h2 => by have := own_ltSize h.oa h2; omega, h.cs.grown h.od (by decide) (by decide) hg⟩
theorem SG.growA (h : SG W g c L A cap k d m vd va ld la lc w) (ho : w'.ownsRow W.heap.size 51 3 v' l'.length (cellsOf l')) (hg : w.grownBy w' va.ownBlock) (hw : ∀ b, v'.ownBlock = some b → va.ownBlock = some b ∨ w.heap.size ≤ b) :
    SG W g c L A cap k d m vd v' ld l' lc w' :=
  ⟨h.bt.trans (.of_below (below_grown h.oa h.size hg)), h.st.below (below_grown h.oa h.size hg) h.gB, h.gB, h.od.kept hg (ne_none fun b hb hd => h.ne b hd hb), ho, fun b hb hb2 => by
    rcases hw b hb2 with h1 | h1
    · exact h.ne b hb h1
    · have := own_ltSize h.od hb; omega, h.cs.grown h.oa (by decide) (by decide) hg⟩
theorem SG.nil (h : SG W g c L A cap k d m vd va ld la lc w) : SG W g c L A cap k d m (.slice none 0 0) (.slice none 0 0) [] [] lc w :=
  ⟨h.bt, h.st, h.gB, World.ownsRow_nil _ _ _ _, World.ownsRow_nil _ _ _ _, fun b hb => by simp [Value.ownBlock] at hb, h.cs⟩
theorem SG.rd (h : SG W g c L A cap k d m vd va ld la lc w) {k0 : Nat} {v : Value} {l : List Smp} (hS : Strm W g L A cap k0) (hr : RdS W 51 v l) : RdS w 51 v l :=
  Rd.keep hr fun b cur fr hh => h.bt.block b (lt_of_heap hh) (fun e => by subst e; exact hS.no (by decide) cur fr hh)
theorem SG.blk (h : SG W g c L A cap k d m vd va ld la lc w) {b : Nat} {t : TypeId} {cs : Array Value} (hr : Blk W b t cs) (hb : b ≠ g) : Blk w b t cs := (h.bt.block b hr.lt hb).trans hr
end
theorem arch_length (d m : Int) (l : List Smp) : (arch d m l).length ≤ 2 * l.length := by
  unfold arch choI
  rw [List.length_map]
  rcases Nat.eq_zero_or_pos l.length with h | h
  · rw [h]; simp [compTo]
  · exact (compTo_inv d m l _ h).2.2.2
theorem flushOut_length (d m : Int) (l : List Smp) : (flushOut d m l).length ≤ 1 := by
  unfold flushOut; split <;> simp
theorem compressed_inside (d m : Int) (l : List Smp) : (compressed d m l).length ≤ 2 * l.length + 1 ∧ Inside l.length (compressed d m l) := by
  unfold compressed
  by_cases h : l.length = 0
  · rw [if_pos h]; exact ⟨by simp, fun j hj => by simp at hj⟩
  · rw [if_neg h]
    obtain ⟨h1, h2, h3, h4⟩ := compTo_inv d m l l.length (by omega)
    refine ⟨Nat.le_trans (keepI_long _ _) (by omega), fun j hj => ?_⟩
    have hm := List.getElem_mem hj
    generalize (keepI (l.length - 1) (compTo d m l l.length)).1[j] = x at hm
    unfold keepI at hm
    split at hm
    · exact h3 x hm
    · rcases List.mem_append.1 hm with hm | hm
      · exact h3 x hm
      · simp at hm; omega

set_option maxRecDepth 100000 in
set_option maxHeartbeats 4000000 in
theorem samplesStream_walk (w : World) (L : List Int) (A : Option Addr) (cap : Nat) (hc : ∀ i, i < L.length → ∃ ad : Addr, A = some ad ∧ ad.block < w.heap.size ∧ w.cell? (ad.add i) = some (.int .i64 (L.getD i 0)))
    (hl : L.length ≤ 9223372036854775807) (hwf : ∀ i, -9223372036854775808 ≤ L.getD i 0 ∧ L.getD i 0 ≤ 9223372036854775807) :
    Calls Try.prog 4 #[.slice A L.length cap] w fun e w' => e = .returned (.bool true) ∧ Below w.heap.size w w' := by
  have hS0 : Strm (w.alloc (.cells #[.slice A L.length cap, .int .i64 0] 25)) w.heap.size L A cap 0 :=
    ⟨heap_alloc_new w _, fun i hi => by
      obtain ⟨ad, e, hb, hcell⟩ := hc i hi
      exact ⟨ad, e, hb, by rw [World.cell?_alloc_lt _ _ _ (by rw [addr_add_block]; exact hb)]; exact hcell⟩, hl, hwf⟩
  have HS0 := Lib.hid hS0
  clear hS0 hc hwf
  go_enter Try.func4, Try.ntmps4
  go_wp2_with fail
  refine (doorOf_went _ w.heap.size L A cap 0 HS0.out (by omega)).mono ?_
  rintro e w2 ⟨d, m, k2, rfl, hd1, hd2, hk2, hw2⟩
  go_wp2_with fail
  refine (curve_went _ w.heap.size L A cap k2 14 hw2.1 (by omega) (by omega)).mono ?_
  rintro e w3 ⟨v, rfl, l, k3, hown, hlen, hnear, hk3, hw3⟩
  have hrd : RdS w3 51 v l := Rd.of_own hown
  have hbl : Below w.heap.size w w3 := ((Below.refl _ w).alloc (Nat.le_refl _) _).trans (butBelow (hw2.2.trans hw3.2) (Nat.le_refl _) (by simp))
  have hst3 := hw3.1
  have hlt3 : w.heap.size < w3.heap.size := hst3.lt
  obtain ⟨pv, cv, rfl⟩ := hrd.lenv
  have HS3 := Lib.hid (hst3.below (w' := w3.alloc (.cells #[.int .i64 d, .int .i64 m] 27)) ((Below.refl w3.heap.size _).alloc (Nat.le_refl _) _) hlt3)
  have HR3 := Lib.hid (Rd.alloc hrd (.cells #[.int .i64 d, .int .i64 m] 27) : RdS (w3.alloc (.cells #[.int .i64 d, .int .i64 m] 27)) 51 (.slice pv l.length cv) l)
  have HD3 := Lib.hid (Blk.new w3 27 #[.int .i64 d, .int .i64 m])
  have HB3 := Lib.hid (hbl.alloc (Nat.le_of_lt hlt3) (.cells #[.int .i64 d, .int .i64 m] 27))
  have hsz3 : w.heap.size < (w3.alloc (.cells #[.int .i64 d, .int .i64 m] 27)).heap.size := by simp; omega
  clear hw2 hw3 hown hnear hrd hbl hst3 hd1 hd2
  go_wp2_with fail
  have hnew := new_any d m (w3.alloc (.cells #[.int .i64 d, .int .i64 m] 27))
  have hne3 : w3.heap.size ≠ w.heap.size := by omega
  have HNE := Lib.hid hne3
  generalize w3.alloc (.cells #[.int .i64 d, .int .i64 m] 27) = W at *
  generalize w3.heap.size = bD at *
  clear hlt3 hne3
  refine hnew.mono ?_
  rintro e w4 ⟨hb4, ⟨hE, rfl⟩ | ⟨hE, c, rfl, hcs⟩⟩
  · have hd4 := HD3.out.below hb4 HD3.out.lt
    have q0 : w4.cell? ⟨bD, 0, none⟩ = some (.int .i64 d) := hd4.cell 0
    have q1 : w4.cell? ⟨bD, 1, none⟩ = some (.int .i64 m) := hd4.cell 1
    have hE' : (doorErr d m != 0) = true := by simpa using hE
    have hEE : (doorErr d m == doorErr d m) = true := by simp
    clear hE hnew
    have hb04 := HB3.out.trans (hb4.mono (Nat.le_of_lt hsz3))
    go_wp2_with fail
    refine (doorFault_any d m _).mono ?_
    rintro e w5 ⟨rfl, hb5⟩
    have hb05 := hb04.trans (hb5.mono hb04.size)
    go_wp2_with fail
    refine (pressed_any _).mono ?_
    rintro e w6 ⟨rfl, hb6⟩
    go_wp2_with fail
    go_ret
    exact ⟨rfl, hb05.trans (hb6.mono hb05.size)⟩
  · have hg0 : SG W w.heap.size c L A cap k3 d m (.slice none 0 0) (.slice none 0 0) [] [] [] w4 :=
      ⟨.of_below hb4, HS3.out.below hb4 hsz3, hsz3, World.ownsRow_nil _ _ _ _, World.ownsRow_nil _ _ _ _, fun b hb => by simp [Value.ownBlock] at hb, hcs⟩
    have hd4 := hg0.blk HD3.out HNE.out
    have q0 : w4.cell? ⟨bD, 0, none⟩ = some (.int .i64 d) := hd4.cell 0
    have q1 : w4.cell? ⟨bD, 1, none⟩ = some (.int .i64 m) := hd4.cell 1
    obtain ⟨hdd, hdm⟩ := doorErr_ok hE
    have HE := Lib.hid hE
    clear hE hnew hcs hb4
    go_wp2_with fail
    refine (doorFault_any d m _).mono ?_
    rintro e w5 ⟨rfl, hb5⟩
    have hg5 := hg0.below hb5
    rw [HE.out]
    clear hb5 hg0 q0 q1 hd4
    go_wp2_with fail
    go_loopw [9, 10, 50] (fun sd sa si wr => ∃ (i k : Nat) (vd va : Value) (ld : List Smp), vd = sd ∧ va = sa ∧ si = .int .i64 (i : Int) ∧ i ≤ l.length ∧ ld.length ≤ i ∧ k ≤ k3 + i ∧ FitL ld ∧ SG W w.heap.size c L A cap k d m vd va ld (arch d m ld) ld wr) (fun _ _ i _ => l.length - (intOf i).toNat)
    case atStart =>
      exact ⟨0, k3, _, _, [], rfl, rfl, rfl, by omega, by simp, by omega, ⟨⟨fun i k h1 h2 => by simp at h2, fun j hj => by simp at hj⟩, fun i hi => by simp at hi⟩, hg5⟩
    case round =>
      obtain ⟨i, k, vd, va, ld, rfl, rfl, rfl, hi, hll, hkk, hfit, hg⟩ := hrel
      have HFIT := Lib.hid hfit
      clear hfit
      by_cases hlt : i < l.length
      · obtain ⟨b, off, cc, hv, hc1, hc2, hblt, hcell⟩ := RdS.at_ (hg.rd HS3.out HR3.out) (by omega)
        cases hv
        unfold maxLen at hc2
        obtain ⟨c0, c1, c2⟩ := hcell i hlt
        generalize atS l i = x at *
        have hgx := hg.alloc (.cells #[.int .i64 x.t, .int .i64 x.v, .int .i64 x.q] 51)
        have hbx := Blk.new wr 51 #[.int .i64 x.t, .int .i64 x.v, .int .i64 x.q]
        have hszr := hg.size
        clear hcell
        by_cases hE : addErr ld x = 0
        · have hao := add_ok W.heap.size c d m ld x _ hgx.cs HFIT.out hdd hgx.size hE
          have HFX := Lib.hid (HFIT.out.snoc hE)
          have HE0 := Lib.hid hE
          have hla := arch_length d m ld
          clear hE
          go_wp2_with fail
          refine hao.mono ?_
          rintro e w6 ⟨vo, out, rfl, hao1, hol, hoo, hcs6, hcg6⟩
          have hg6 := hgx.cg hcg6 hcs6
          have hx6 := hcg6.blk hbx (by decide) (by decide)
          have z0 : w6.cell? ⟨wr.heap.size, 0, none⟩ = some (.int .i64 x.t) := hx6.cell 0
          have z1 : w6.cell? ⟨wr.heap.size, 1, none⟩ = some (.int .i64 x.v) := hx6.cell 1
          have z2 : w6.cell? ⟨wr.heap.size, 2, none⟩ = some (.int .i64 x.q) := hx6.cell 2
          have hvo : ∀ b, vd.ownBlock = some b → vo.ownBlock ≠ some b := fun b hb => own_neBlock hoo (own_ltSize hgx.od hb)
          have HVO := Lib.hid hvo
          have HAO := Lib.hid hao1
          have HOO := Lib.hid hoo
          clear hao hcs6 hcg6 hvo hoo hao1 c0 c1 c2
          go_wp2_with fail
          refine (addFault_any vd ld x _ (Rd.of_own hg6.od) (by omega)).mono ?_
          rintro e w7 ⟨rfl, hb7⟩
          have hg7 := hg6.below hb7
          have hx7 := hx6.below hb7 hx6.lt
          have HO7 := Lib.hid (own_keep HOO.out fun b _ _ hh => hb7.block b (lt_of_heap hh))
          rw [HE0.out]
          clear hb7 hx6 z0 z1 z2
          have z0 : w7.cell? ⟨wr.heap.size, 0, none⟩ = some (.int .i64 x.t) := hx7.cell 0
          have z1 : w7.cell? ⟨wr.heap.size, 1, none⟩ = some (.int .i64 x.v) := hx7.cell 1
          have z2 : w7.cell? ⟨wr.heap.size, 2, none⟩ = some (.int .i64 x.q) := hx7.cell 2
          have hg8 := hg7.alloc (.cells #[.int .i64 x.t, .int .i64 x.v, .int .i64 x.q] 51)
          have HR8 := Lib.hid (RdS.one w7 x)
          have HO8 := Lib.hid (own_keep HO7.out fun b _ _ hh => heap_alloc_old w7 (.cells #[.int .i64 x.t, .int .i64 x.v, .int .i64 x.q] 51) (lt_of_heap hh))
          clear hx7
          go_wp2_with (first
            | (at_builtin; refine wpList_append_smps2 rfl (.tmp 75) (.tmp 77) rfl W.heap.size vd ld rfl hg8.od _ rfl [x] HR8.out (by omega) (by simp) hg8.size ?_; intro v1 w9 ho9 hgr9 hwh9; have hg9 := hg8.growD ho9 hgr9 hwh9; have HO9 := Lib.hid (HO8.out.kept hgr9 (ne_none HVO.out)); clear ho9 hgr9 hwh9)
            | (at_builtin; refine wpList_append_smps2 rfl (.tmp 79) (.tmp 80) rfl W.heap.size va (arch d m ld) rfl hg9.oa vo rfl out (Rd.of_own HO9.out) (by omega) (by omega) hg9.size ?_; intro v2 wa hoa hgra hwha; have hga := hg9.growA hoa hgra hwha; clear hoa hgra hwha))
          refine (flip_went _ w.heap.size L A cap k 12 hga.st (by omega) (by omega)).mono ?_
          rintro e wb ⟨rfl, hwb, _⟩
          have hgb := hga.went hwb
          have hlen1 : (ld ++ [x]).length = ld.length + 1 := by simp
          have HEQ := Lib.hid HAO.out
          have HL1 := Lib.hid hlen1
          clear hwb hlen1
          cases hfz : nxt L k 12 == 0
          · clear hfz
            go_wp2_with fail
            go_roundw
            case rel => exact ⟨i + 1, k + 1, _, _, ld ++ [x], rfl, rfl, by go_num, by omega, by have := HL1.out; omega, by omega, HFX.out, by rw [HEQ.out]; exact hgb⟩
            case measure => simp [intOf]; omega
          · clear hfz
            rw [← HEQ.out] at hgb
            generalize ld ++ [x] = le at *
            have hle : le.length ≤ 15 := by have := HL1.out; omega
            have hfl := flush_any W.heap.size c d m le wb hgb.cs hgb.size
            have hfe := flush_end d m le
            have hlf : (flushOut d m le).length ≤ 1 := flushOut_length d m le
            have hla := arch_length d m le
            obtain ⟨hcl, hci⟩ := compressed_inside d m le
            have HFE := Lib.hid hfe
            have HCI := Lib.hid hci
            have HCO := Lib.hid (fun w' vd (hR : RdS w' 51 vd le) => compressedOf_any d m vd le w' hR (by omega) HFX.out hdd)
            clear hfe hci
            generalize compressed d m le = ks at *
            go_wp2_with fail
            refine hfl.mono ?_
            rintro e w6 ⟨vf, rfl, hof, hcsf, hcgf⟩
            have hgf := hgb.cg hcgf hcsf
            have HOF := Lib.hid (Rd.of_own hof : RdS w6 51 vf (flushOut d m le))
            clear hfl hcsf hcgf hof
            go_wp2_with (at_builtin; refine wpList_append_smps2 rfl (.tmp 84) (.tmp 86) rfl W.heap.size v2 (arch d m le) rfl hgf.oa vf rfl (flushOut d m le) HOF.out (by omega) (by omega) hgf.size ?_; intro v3 w7 ho7 hgr7 hwh7; have hgg := hgf.growA ho7 hgr7 hwh7; clear ho7 hgr7 hwh7; have q0 : w7.cell? ⟨bD, 0, none⟩ = some (.int .i64 d) := (hgg.blk HD3.out HNE.out).cell 0; have q1 : w7.cell? ⟨bD, 1, none⟩ = some (.int .i64 m) := (hgg.blk HD3.out HNE.out).cell 1)
            refine (HCO.out _ _ (Rd.of_own hgg.od)).mono ?_
            rintro e w8 ⟨vk, rfl, hrk, hb8⟩
            have hgh := hgg.below hb8
            have HRK := Lib.hid hrk
            clear hb8 q0 q1 hrk
            go_wp2_with fail
            refine (keptOf_any v1 vk le ks _ (Rd.of_own hgh.od) HRK.out (by omega) HCI.out).mono ?_
            rintro e w9 ⟨ve, rfl, hoe, hb9⟩
            have hgi := hgh.below hb9
            have HRE := Lib.hid (show RdS w9 51 ve (choI le ks) by have := Rd.of_own hoe; unfold RdS; rw [show (choI le ks).length = ks.length by simp [choI]]; exact this)
            clear hb9 hoe
            go_wp2_with fail
            refine (equal_any v3 ve (arch d m le ++ flushOut d m le) (choI le ks) _ (Rd.of_own hgi.oa) HRE.out).mono ?_
            rintro e wc ⟨rfl, nc, rfl⟩
            have hgj := hgi.drewN nc
            have hdt : decide (arch d m le ++ flushOut d m le = choI le ks) = true := decide_eq_true HFE.out.symm
            rw [hdt]
            clear hdt
            go_wp2_with fail
            go_roundw
            case rel => exact ⟨i + 1, k + 1, _, _, [], rfl, rfl, by go_num, by omega, by simp, by omega, ⟨⟨fun i k h1 h2 => by simp at h2, fun j hj => by simp at hj⟩, fun i hi => by simp at hi⟩, hgj.nil⟩
            case measure => simp [intOf]; omega
        · have hae := fun w' (hs : CompSt W.heap.size w' c d m ld) => add_err W.heap.size c d m ld x w' hs hE
          have hE' : (addErr ld x != 0) = true := by simpa using hE
          have hEE : (addErr ld x != addErr ld x) = false := by simp
          have HAE := Lib.hid hae
          clear hE hae
          go_wp2_with fail
          refine (HAE.out _ hgx.cs).mono ?_
          rintro e w6 ⟨rfl, hb6⟩
          have hg6 := hgx.below hb6
          have hx6 := hbx.below hb6 hbx.lt
          have z0 : w6.cell? ⟨wr.heap.size, 0, none⟩ = some (.int .i64 x.t) := hx6.cell 0
          have z1 : w6.cell? ⟨wr.heap.size, 1, none⟩ = some (.int .i64 x.v) := hx6.cell 1
          have z2 : w6.cell? ⟨wr.heap.size, 2, none⟩ = some (.int .i64 x.q) := hx6.cell 2
          clear hb6
          go_wp2_with fail
          refine (addFault_any vd ld x _ (Rd.of_own hg6.od) (by omega)).mono ?_
          rintro e w7 ⟨rfl, hb7⟩
          have hg7 := hg6.below hb7
          go_wp2_with fail
          go_roundw
          case rel => exact ⟨i + 1, k, vd, va, ld, rfl, rfl, by go_num, by omega, by omega, by omega, HFIT.out, hg7⟩
          case measure => simp [intOf]; omega
      · obtain rfl : i = l.length := by omega
        have hfl := flush_any W.heap.size c d m ld wr hg.cs hg.size
        have hfe := flush_end d m ld
        have hlf : (flushOut d m ld).length ≤ 1 := flushOut_length d m ld
        have hla := arch_length d m ld
        obtain ⟨hcl, hci⟩ := compressed_inside d m ld
        have HFE := Lib.hid hfe
        have HCI := Lib.hid hci
        have HCO := Lib.hid (fun w' vd (hR : RdS w' 51 vd ld) => compressedOf_any d m vd ld w' hR (by omega) HFIT.out hdd)
        clear hfe hci
        generalize compressed d m ld = ks at *
        go_wp2_with fail
        refine hfl.mono ?_
        rintro e w6 ⟨vo, rfl, hoo, hcs6, hcg6⟩
        have hg6 := hg.cg hcg6 hcs6
        have HOO := Lib.hid (Rd.of_own hoo : RdS w6 51 vo (flushOut d m ld))
        clear hfl hcs6 hcg6 hoo
        go_wp2_with (at_builtin; refine wpList_append_smps2 rfl (.tmp 97) (.tmp 99) rfl W.heap.size va (arch d m ld) rfl hg6.oa vo rfl (flushOut d m ld) HOO.out (by omega) (by omega) hg6.size ?_; intro v1 w7 ho7 hgr7 hwh7; have hg7 := hg6.growA ho7 hgr7 hwh7; clear ho7 hgr7 hwh7; have q0 : w7.cell? ⟨bD, 0, none⟩ = some (.int .i64 d) := (hg7.blk HD3.out HNE.out).cell 0; have q1 : w7.cell? ⟨bD, 1, none⟩ = some (.int .i64 m) := (hg7.blk HD3.out HNE.out).cell 1)
        refine (HCO.out _ _ (Rd.of_own hg7.od)).mono ?_
        rintro e w8 ⟨vk, rfl, hrk, hb8⟩
        have hg8 := hg7.below hb8
        have HRK := Lib.hid hrk
        clear hb8 q0 q1 hrk
        go_wp2_with fail
        refine (keptOf_any vd vk ld ks _ (Rd.of_own hg8.od) HRK.out (by omega) HCI.out).mono ?_
        rintro e w9 ⟨ve, rfl, hoe, hb9⟩
        have hg9 := hg8.below hb9
        have HRE := Lib.hid (show RdS w9 51 ve (choI ld ks) by have := Rd.of_own hoe; unfold RdS; rw [show (choI ld ks).length = ks.length by simp [choI]]; exact this)
        clear hb9 hoe
        go_wp2_with fail
        refine (equal_any v1 ve (arch d m ld ++ flushOut d m ld) (choI ld ks) _ (Rd.of_own hg9.oa) HRE.out).mono ?_
        rintro e wa ⟨rfl, na, rfl⟩
        have hga := hg9.drewN na
        have hdt : decide (arch d m ld ++ flushOut d m ld = choI ld ks) = true := decide_eq_true HFE.out.symm
        rw [hdt]
        clear hdt
        go_wp2_with fail
        refine (flush_any W.heap.size c d m [] _ hga.cs hga.size).mono ?_
        rintro e wb ⟨vz, rfl, hoz, hcsb, hcgb⟩
        obtain ⟨pz, cz, rfl⟩ := own_zero hoz
        have hgb := hga.cg hcgb hcsb
        clear hoz hcsb hcgb
        go_wp2_with fail
        refine (pressed_any _).mono ?_
        rintro e wc ⟨rfl, hbc⟩
        have hgc := hgb.below hbc
        go_wp2_with fail
        go_ret
        exact ⟨rfl, hgc.bt.below HB3.out (Nat.le_refl _) (Nat.le_of_lt hsz3)⟩
end Go.Proofs.Ytmigafjimnkcmaa
