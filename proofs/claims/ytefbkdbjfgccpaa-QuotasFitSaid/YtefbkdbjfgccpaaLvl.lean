/- The contracts of RightLevels and LevelList (package logmake): some levels, at most four; no more is asked of them. -/
import Derived.Test.YtefbkdbjfgccpaaLvv
import Derived.Test.YtefbkdbjfgccpaaLvm
import Derived.Test.YtefbkdbjfgccpaaApp
namespace Go.Proofs.Ytefbkdbjfgccpaa
open Go.RowKit
set_option linter.unusedVariables false
set_option linter.unusedSimpArgs false

/-- What the makers of levels keep. -/
structure LlK (w0 : World) (g : Nat) (L : List Int) (A : Option Addr) (cap : Nat) (o : Value) (xs : List (Int × Int)) (k : Nat) (W : World) : Prop where
  s : Strm W g L A cap k
  bt : But g w0 W
  ow : W.ownsRow w0.heap.size 31 2 o xs.length (lvlCells xs)
section
variable {w0 W W' : World} {g : Nat} {L : List Int} {A : Option Addr} {cap k k' : Nat} {o : Value} {xs : List (Int × Int)}
theorem LlK.went (h : LlK w0 g L A cap o xs k W) (hw : Went W g L A cap k' W') : LlK w0 g L A cap o xs k' W' := ⟨hw.1, h.bt.trans hw.2, own_but h.s (by decide) h.ow hw.2⟩
theorem LlK.alloc (h : LlK w0 g L A cap o xs k W) (x : Obj) : LlK w0 g L A cap o xs k (W.alloc x) := ⟨h.s.alloc _, h.bt.alloc _, h.ow.alloc _⟩
end
def SmallLv (l : List (Int × Int)) : Prop := ∀ y ∈ l, (-1 ≤ y.1 ∧ y.1 ≤ 86400001) ∧ 0 ≤ y.2 ∧ y.2 ≤ 345686400001
def LlEnd (lo : Nat) (w : World) (g : Nat) (L : List Int) (A : Option Addr) (cap k : Nat) (e : Ending) (w' : World) : Prop :=
  ∃ v l k', e = .returned v ∧ w'.ownsRow w.heap.size 31 2 v l.length (lvlCells l) ∧ lo ≤ l.length ∧ l.length ≤ 4 ∧ SmallLv l ∧ k' ≤ k + 20 ∧ Went w g L A cap k' w'

set_option maxRecDepth 100000 in
set_option maxHeartbeats 600000 in
theorem rightLevels_went (w : World) (g : Nat) (L : List Int) (A : Option Addr) (cap k : Nat) (hS : Strm w g L A cap k) (hk : k ≤ 700000000) :
    Calls Try.prog 16 #[.pointer (some ⟨g, 0, none⟩)] w (LlEnd 1 w g L A cap k) := by
  have hlt0 := hS.lt
  have hr := nxt_range L (k + 2) (3 + 1) (by omega)
  have hn : (((nxt L (k + 2) (3 + 1)).toNat : Nat) : Int) = 0 + nxt L (k + 2) (3 - 0 + 1) := by rw [show (3 : Int) - 0 + 1 = 3 + 1 from by omega]; omega
  have hN : (nxt L (k + 2) (3 + 1)).toNat ≤ 3 := by omega
  generalize (nxt L (k + 2) (3 + 1)).toNat = N at *
  have HN := Lib.hid hn
  clear hn hr
  go_enter Try.func16, Try.ntmps16
  go_wp2_with fail
  refine (pick_new _ _ g L A cap k [1, 20, 50, 100] hS rfl (by omega) (by simp)).mono ?_
  rintro e w1 ⟨rfl, hw1⟩
  have hT := pk_mem [1, 20, 50, 100] L k (by simp)
  simp only [List.mem_cons, List.not_mem_nil, or_false] at hT
  generalize pk [1, 20, 50, 100] L k = T at *
  have hT' : 1 ≤ T ∧ T ≤ 100 := by omega
  clear hT
  have hrow : (w1.alloc (.cells #[.int .i64 0, .int .i64 T] 31)).ownsRow w.heap.size 31 2 (.slice (some ⟨w1.heap.size, 0, none⟩) 1 1) 1 (lvlCells [(0, T)]) := by
    have h := World.ownsRow_lit (e := 31) (size := 2) (base := w.heap.size) w1 #[.int .i64 0, .int .i64 T] 1 hw1.2.size (by simp [maxLen]) rfl
    simpa [lvlCells] using h
  have hg1 : LlK w g L A cap (.slice (some ⟨w1.heap.size, 0, none⟩) 1 1) [(0, T)] (k + 1) (w1.alloc (.cells #[.int .i64 0, .int .i64 T] 31)) := ⟨hw1.1.alloc _, hw1.2.alloc _, hrow⟩
  have hsz1 := hw1.2.size
  clear hrow
  go_wp2_with fail
  refine (pick_new _ _ g L A cap (k + 1) [10, 50, 100] hg1.s (by simp) (by omega) (by simp)).mono ?_
  rintro e w2 ⟨rfl, hw2⟩
  have hP := pk_mem [10, 50, 100] L (k + 1) (by simp)
  simp only [List.mem_cons, List.not_mem_nil, or_false] at hP
  generalize pk [10, 50, 100] L (k + 1) = P at *
  have hP' : 1 ≤ P ∧ P ≤ 100 := by omega
  clear hP
  have hg2 := hg1.went hw2
  obtain ⟨c0, c1⟩ := own_lvl hg2.ow rfl 0 (by simp)
  have c1' : w2.cell? ⟨w1.heap.size, 1, none⟩ = some (.int .i64 T) := by simpa using c1
  clear c0 c1 hw2 hg1
  go_wp2_with fail
  refine (range_went _ g L A cap (k + 2) 0 3 hg2.s (by omega) (by omega) (by omega) (by omega)).mono ?_
  rintro e w3 ⟨rfl, hw3, hz3⟩
  clear hz3
  rw [← HN.out]
  have hg3 := hg2.went hw3
  generalize w1.heap.size = g0 at *
  clear hw1 hw3 hg2 HN c1'
  go_wp2_with fail
  go_loopw [3, 4, 5, 20] (fun o st kp i wr => ∃ (j : Nat) (xs : List (Int × Int)) (s t : Int), j ≤ N ∧ i = .int .i64 (j : Int) ∧ st = .int .i64 s ∧ kp = .int .i64 t ∧ 1 ≤ s ∧ (j = 0 ∧ s ≤ 100 ∨ j = 1 ∧ s ≤ 200 ∨ j = 2 ∧ s ≤ 400 ∨ j = 3 ∧ s ≤ 800) ∧ 1 ≤ t ∧ t ≤ 100 + 400 * (j : Int) ∧ xs.length = j + 1 ∧ SmallLv xs ∧ LlK w g L A cap o xs (k + 3 + j) wr) (fun _ _ _ i _ => N - (intOf i).toNat)
  case atStart => exact ⟨0, [(0, T)], P, T, by omega, rfl, rfl, rfl, by omega, .inl ⟨rfl, by omega⟩, by omega, by omega, rfl, (fun y hy => by rw [List.mem_singleton.1 hy]; exact ⟨⟨by simp, by simp⟩, by simp only; omega, by simp only; omega⟩), hg3⟩
  case round =>
    clear hg3
    obtain ⟨j, xs, s, t, hj, rfl, rfl, rfl, hs1, hs2, ht1, ht2, hxl, hsm, hk0⟩ := hrel
    have hsb : s ≤ 800 := by omega
    by_cases hlt : j < N
    · go_wp2_with fail
      refine (pick_new _ _ g L A cap (k + 3 + j) [1, 30, 100, 400] hk0.s rfl (by omega) (by simp)).mono ?_
      rintro e wa ⟨rfl, hwa⟩
      have hQ := pk_mem [1, 30, 100, 400] L (k + 3 + j) (by simp)
      simp only [List.mem_cons, List.not_mem_nil, or_false] at hQ
      generalize pk [1, 30, 100, 400] L (k + 3 + j) = p at *
      have hQ' : 1 ≤ p ∧ p ≤ 400 := by omega
      have hka := hk0.went hwa
      obtain ⟨te, hte⟩ : ∃ te, te = t + p := ⟨_, rfl⟩
      have hwt : IntKind.i64.wrap (t + p) = te := by rw [hte]; exact IntWalk.i64_in _ (by omega)
      have hw2s : IntKind.i64.wrap (s * 2) = s * 2 := IntWalk.i64_in _ (by omega)
      have hteb : 1 ≤ te ∧ te ≤ 100 + 400 * ((j + 1 : Nat) : Int) := by omega
      have hsm2 : SmallLv (xs ++ [(s, te)]) := fun y hy => by
        rcases List.mem_append.1 hy with hy | hy
        · exact hsm y hy
        · rw [List.mem_singleton.1 hy]; exact ⟨⟨by simp only; omega, by simp only; omega⟩, by simp only; omega, by simp only; omega⟩
      have hlenn : (xs ++ [(s, te)]).length = j + 1 + 1 := by simp [hxl]
      have hs3 : j + 1 = 0 ∧ s * 2 ≤ 100 ∨ j + 1 = 1 ∧ s * 2 ≤ 200 ∨ j + 1 = 2 ∧ s * 2 ≤ 400 ∨ j + 1 = 3 ∧ s * 2 ≤ 800 := by omega
      have HS3 := Lib.hid hs3
      have HTE := Lib.hid hte
      have HSM := Lib.hid hsm2
      have HLN := Lib.hid hlenn
      have HKB := Lib.hid (hka.alloc (.cells #[.int .i64 s, .int .i64 te] 31))
      have hso := hka.bt.size
      have hx4 : xs.length ≤ 100 := by omega
      have HXL := Lib.hid hxl
      clear hk0 hwa hQ hte hsm hsm2 hlenn hs2 hs3 hka hxl
      go_wp2_with (at_builtin; go_loud (refine wpList_append_lvl rfl (.tmp 27) (.tmp 31) rfl w.heap.size _ _ xs rfl (by exact HKB.out.ow) wa.heap.size rfl (s, te) (by exact Blk.new _ _ _) (by omega) (by simp; omega) ?_); intro v1 wd hown1 hgrow1)
      have hkd : LlK w g L A cap v1 (xs ++ [(s, te)]) (k + 3 + j + 1) wd := by
        have h1 := below_grown HKB.out.ow (by simp; omega) hgrow1
        have h2 : Went w g L A cap (k + 3 + j + 1) wd := Went.below ⟨HKB.out.s, HKB.out.bt⟩ hlt0 h1
        exact ⟨h2.1, h2.2, by simpa using hown1⟩
      clear hown1 hgrow1
      go_wp2_with fail
      go_roundw
      case rel => exact ⟨j + 1, xs ++ [(s, te)], s * 2, te, by omega, by go_num, rfl, rfl, by omega, HS3.out, by omega, by omega, HLN.out, HSM.out, hkd⟩
      case measure => simp [intOf]; omega
    · obtain rfl : j = N := by omega
      go_wp2_with fail
      go_ret
      exact ⟨_, xs, _, rfl, hk0.ow, by omega, by omega, hsm, by omega, hk0.s, hk0.bt⟩

theorem own_putL {w : World} {base g c n : Nat} {l : List (Int × Int)} (h : w.ownsRow base 31 2 (.slice (some ⟨g, 0, none⟩) n c) n (lvlCells l)) (j : Nat) (hj : j < l.length) (y : Int × Int) :
    ((w.setCell ⟨g, j * 2, none⟩ (.int .i64 y.1)).setCell ⟨g, j * 2 + 1, none⟩ (.int .i64 y.2)).ownsRow base 31 2 (.slice (some ⟨g, 0, none⟩) n c) n (lvlCells (l.set j y)) := by
  have h1 := (h.stored (j * 2) (.int .i64 y.1)).1
  have h2 := (h1.stored (j * 2 + 1) (.int .i64 y.2)).1
  rwa [lvlCells_set l j hj y] at h2

set_option maxRecDepth 100000 in
set_option maxHeartbeats 1000000 in
theorem levelList_went (w : World) (g : Nat) (L : List Int) (A : Option Addr) (cap k : Nat) (hS : Strm w g L A cap k) (hk : k ≤ 600000000) :
    Calls Try.prog 4 #[.pointer (some ⟨g, 0, none⟩)] w (LlEnd 0 w g L A cap (k + 20)) := by
  have hlt0 := hS.lt
  go_enter Try.func4, Try.ntmps4
  go_wp2_with fail
  refine (rightLevels_went _ g L A cap k hS (by omega)).mono ?_
  rintro e w1 ⟨v, l, k1, rfl, hown, hl1, hl4, hsm, hk1, hw1⟩
  obtain ⟨g1, cap1, rfl, hg1, hd1, hd2⟩ := own_form hown (by omega)
  unfold maxLen at hd2
  have hk0 : LlK w g L A cap (.slice (some ⟨g1, 0, none⟩) l.length cap1) l k1 w1 := ⟨hw1.1, hw1.2, hown⟩
  clear hown hw1
  go_wp2_with fail
  refine (flip_went _ g L A cap k1 10 hk0.s (by omega) (by omega)).mono ?_
  rintro e w2 ⟨rfl, hw2, hz2⟩; clear hz2
  have hk2 := hk0.went hw2
  clear hk0 hw2
  have hgg : g1 ≠ g := by omega
  by_cases hF : nxt L k1 10 = 0
  · have hF' : (nxt L k1 10 == 0) = true := by simpa using hF
    clear hF
    have hr := nxt_range L (k1 + 1) l.length (by omega)
    go_wp2_with fail
    refine (next_went _ g L A cap (k1 + 1) l.length hk2.s (by omega) (by omega)).mono ?_
    rintro e w3 ⟨rfl, hw3, hz3⟩; clear hz3
    have hk3 := hk2.went hw3
    clear hk2 hw3
    obtain ⟨n, hnx, hnl⟩ : ∃ n : Nat, nxt L (k1 + 1) l.length = (n : Int) ∧ n < l.length := ⟨(nxt L (k1 + 1) l.length).toNat, by omega, by omega⟩
    rw [hnx]
    go_wp2_with fail
    refine (pick_new _ _ g L A cap (k1 + 2) [0, 7, 10, 100, 86400000, 86400001, -1] hk3.s rfl (by omega) (by simp)).mono ?_
    rintro e w4 ⟨rfl, hw4⟩
    have hP := pk_mem [0, 7, 10, 100, 86400000, 86400001, -1] L (k1 + 2) (by simp)
    simp only [List.mem_cons, List.not_mem_nil, or_false] at hP
    generalize pk [0, 7, 10, 100, 86400000, 86400001, -1] L (k1 + 2) = p at *
    have hP' : -1 ≤ p ∧ p ≤ 86400001 := by omega
    have hk4 := hk3.went hw4
    clear hP hk3 hw4
    go_wp2_with fail
    refine (pick_new _ _ g L A cap (k1 + 3) [0, 1, 100, 345686400000, 345686400001] hk4.s rfl (by omega) (by simp)).mono ?_
    rintro e w5 ⟨rfl, hw5⟩
    have hQ := pk_mem [0, 1, 100, 345686400000, 345686400001] L (k1 + 3) (by simp)
    simp only [List.mem_cons, List.not_mem_nil, or_false] at hQ
    generalize pk [0, 1, 100, 345686400000, 345686400001] L (k1 + 3) = q at *
    have hQ' : 0 ≤ q ∧ q ≤ 345686400001 := by omega
    have hk5 := hk4.went hw5
    clear hQ hk4 hw5
    obtain ⟨c0, c1⟩ := own_lvl hk5.ow rfl n hnl
    have f0 := hk5.ow.frozenAt (n * 2)
    have f1 := hk5.ow.frozenAt (n * 2 + 1)
    have hput := own_putL hk5.ow n hnl (p, q)
    have hgh : g < g1 := by omega
    have hS6 := (hk5.s.setCell (p := ⟨g1, n * 2, none⟩) hgh (.int .i64 p)).setCell (p := ⟨g1, n * 2 + 1, none⟩) hgh (.int .i64 q)
    have hbt6 := (hk5.bt.setCell (p := ⟨g1, n * 2, none⟩) (.inr hg1) (.int .i64 p)).setCell (p := ⟨g1, n * 2 + 1, none⟩) (.inr hg1) (.int .i64 q)
    have hk6 : LlK w g L A cap (.slice (some ⟨g1, 0, none⟩) (l.set n (p, q)).length cap1) (l.set n (p, q)) (k1 + 4) ((w5.setCell ⟨g1, n * 2, none⟩ (.int .i64 p)).setCell ⟨g1, n * 2 + 1, none⟩ (.int .i64 q)) :=
      ⟨hS6, hbt6, by rw [List.length_set]; exact hput⟩
    have hsm2 : SmallLv (l.set n (p, q)) := fun y hy => by
      rcases List.mem_or_eq_of_mem_set hy with h | h
      · exact hsm y h
      · rw [h]; exact ⟨hP', hQ'⟩
    have i1 : (0 : Int) ≤ (n : Int) := by omega
    have i2 : (n : Int) < (l.length : Int) := by omega
    have hsl : (l.set n (p, q)).length = l.length := List.length_set
    have HSM2 := Lib.hid hsm2
    have HK6 := Lib.hid hk6
    have HSL := Lib.hid hsl
    clear hput hS6 hbt6 hk5 hk6 hsm2 hsl hsm hnx
    go_wp2_with fail
    generalize (w5.setCell ⟨g1, n * 2, none⟩ (.int .i64 p)).setCell ⟨g1, n * 2 + 1, none⟩ (.int .i64 q) = w6 at *
    refine (flip_went _ g L A cap (k1 + 4) 60 HK6.out.s (by omega) (by omega)).mono ?_
    rintro e w7 ⟨rfl, hw7, hz7⟩; clear hz7
    have hk7 := HK6.out.went hw7
    clear HK6 hw7 c0 c1 f0 f1
    by_cases hG : nxt L (k1 + 4) 60 = 0
    · have hG' : (nxt L (k1 + 4) 60 == 0) = true := by simpa using hG
      go_wp2_with fail
      go_ret
      exact ⟨_, [], _, rfl, World.ownsRow_nil _ _ _ _, by simp, by simp, (fun y hy => by cases hy), by omega, hk7.s, hk7.bt⟩
    · have hG' : (nxt L (k1 + 4) 60 == 0) = false := by simpa using hG
      go_wp2_with fail
      go_ret
      exact ⟨_, l.set n (p, q), _, rfl, by have h := hk7.ow; rw [HSL.out] at h; rw [HSL.out]; exact h, by omega, by rw [HSL.out]; omega, HSM2.out, by omega, hk7.s, hk7.bt⟩
  · have hF' : (nxt L k1 10 == 0) = false := by simpa using hF
    clear hF
    go_wp2_with fail
    refine (flip_went _ g L A cap (k1 + 1) 60 hk2.s (by omega) (by omega)).mono ?_
    rintro e w7 ⟨rfl, hw7, hz7⟩; clear hz7
    have hk7 := hk2.went hw7
    clear hk2 hw7
    by_cases hG : nxt L (k1 + 1) 60 = 0
    · have hG' : (nxt L (k1 + 1) 60 == 0) = true := by simpa using hG
      go_wp2_with fail
      go_ret
      exact ⟨_, [], _, rfl, World.ownsRow_nil _ _ _ _, by simp, by simp, (fun y hy => by cases hy), by omega, hk7.s, hk7.bt⟩
    · have hG' : (nxt L (k1 + 1) 60 == 0) = false := by simpa using hG
      go_wp2_with fail
      go_ret
      exact ⟨_, l, _, rfl, hk7.ow, by omega, by omega, hsm, by omega, hk7.s, hk7.bt⟩
end Go.Proofs.Ytefbkdbjfgccpaa
