/- The contracts of Scale and Limit (package sample). -/
import Derived.Test.YtjkncmhmmafmjaaEach
namespace Go.Proofs.Ytjkncmhmmafmjaa
open Go.RowKit
set_option linter.unusedVariables false
set_option linter.unusedSimpArgs false

def scaleF (n d o : Int) (x : Smp) : Smp := if inB (rnd (x.v * n + o * d) d) (-1000000) 1000000 = true then ⟨x.t, rnd (x.v * n + o * d) d, x.q⟩ else ⟨x.t, 0, 2⟩
def limitF (lo hi : Int) (x : Smp) : Smp := if min (max x.v lo) hi = x.v then x else ⟨x.t, min (max x.v lo) hi, 1⟩

theorem mul_range (a b m : Int) (ha : -m ≤ a ∧ a ≤ m) (hb : -m ≤ b ∧ b ≤ m) (hm : 0 ≤ m) : -(m * m) ≤ a * b ∧ a * b ≤ m * m := by
  have h := Int.natAbs_mul a b
  have h1 : a.natAbs ≤ m.natAbs := by omega
  have h2 : b.natAbs ≤ m.natAbs := by omega
  have h3 : (a * b).natAbs ≤ m.natAbs * m.natAbs := by rw [h]; exact Nat.mul_le_mul h1 h2
  have h4 : ((m.natAbs * m.natAbs : Nat) : Int) = m * m := by rw [Int.natCast_mul]; rw [Int.natAbs_of_nonneg hm]
  omega

set_option maxRecDepth 100000 in
set_option maxHeartbeats 1000000 in
theorem scale1_any (x : Smp) (bf bo : Nat) (n d o : Int) (w : World) (h0 : w.cell? ⟨bf, 0, none⟩ = some (.int .i64 n)) (h1 : w.cell? ⟨bf, 1, none⟩ = some (.int .i64 d)) (h2 : w.cell? ⟨bo, 0, none⟩ = some (.int .i64 o))
    (hbf : bf < w.heap.size) (hbo : bo < w.heap.size) (hx : -1000000 ≤ x.v ∧ x.v ≤ 1000000) (hn : -1000000 ≤ n ∧ n ≤ 1000000) (hd : 1 ≤ d ∧ d ≤ 1000000) (ho : -1000000 ≤ o ∧ o ≤ 1000000) :
    Calls Try.prog 73 #[x.agg, .pointer (some ⟨bf, 0, none⟩), .pointer (some ⟨bo, 0, none⟩)] w fun e w' => e = .returned (scaleF n d o x).agg ∧ Below w.heap.size w w' := by
  have hfin : scaleF n d o x = if inB (rnd (x.v * n + o * d) d) (-1000000) 1000000 = true then ⟨x.t, rnd (x.v * n + o * d) d, x.q⟩ else ⟨x.t, 0, 2⟩ := rfl
  have hm1 := mul_range x.v n 1000000 hx hn (by omega)
  have hm2 := mul_range o d 1000000 ho ⟨by omega, hd.2⟩ (by omega)
  generalize scaleF n d o x = y at *
  obtain ⟨t, v, q⟩ := x
  have HF := Lib.hid hfin
  clear hfin
  simp only at hm1 hx
  unfold Smp.agg
  by_cases hin : inB (rnd (v * n + o * d) d) (-1000000) 1000000 = true
  · have hy : y = ⟨t, rnd (v * n + o * d) d, q⟩ := by have := HF.out; rw [if_pos hin] at this; exact this
    have HY := Lib.hid hy
    clear hy
    go_enter Try.func73, Try.ntmps73
    go_wp2_with (first | (go_at_call 74; refine (rounded_any _ _ _ (by omega) hd).mono ?_; rintro e w' ⟨rfl, rfl⟩) | (go_at_call 62; refine (isValue_any _ _).mono ?_; rintro e w' ⟨rfl, rfl⟩))
    refine bodyPost_ret (v := .agg #[.int .i64 t, .int .i64 (rnd (v * n + o * d) d), .int .i64 q]) (by simp [results, Try.results73, go_sem]) rfl ⟨by rw [HY.out], ((Below.refl _ _).alloc (Nat.le_refl _) _).alloc (by simp) _⟩
  · have hy : y = ⟨t, 0, 2⟩ := by have := HF.out; rw [if_neg hin] at this; exact this
    have hin' : inB (rnd (v * n + o * d) d) (-1000000) 1000000 = false := by simpa using hin
    have HY := Lib.hid hy
    clear hy hin
    go_enter Try.func73, Try.ntmps73
    go_wp2_with (first | (go_at_call 74; refine (rounded_any _ _ _ (by omega) hd).mono ?_; rintro e w' ⟨rfl, rfl⟩) | (go_at_call 62; refine (isValue_any _ _).mono ?_; rintro e w' ⟨rfl, rfl⟩))
    refine bodyPost_ret (v := .agg #[.int .i64 t, .int .i64 0, .int .i64 2]) (by simp [results, Try.results73, go_sem]) rfl ⟨by rw [HY.out], ((Below.refl _ _).alloc (Nat.le_refl _) _).alloc (by simp) _⟩

set_option maxRecDepth 100000 in
set_option maxHeartbeats 1000000 in
theorem limit1_any (x : Smp) (bl bh : Nat) (lo hi : Int) (w : World) (h0 : w.cell? ⟨bl, 0, none⟩ = some (.int .i64 lo)) (h1 : w.cell? ⟨bh, 0, none⟩ = some (.int .i64 hi)) (hbl : bl < w.heap.size) (hbh : bh < w.heap.size) (hlh : lo ≤ hi) :
    Calls Try.prog 75 #[x.agg, .pointer (some ⟨bl, 0, none⟩), .pointer (some ⟨bh, 0, none⟩)] w fun e w' => e = .returned (limitF lo hi x).agg ∧ Below w.heap.size w w' := by
  have hfin : limitF lo hi x = if min (max x.v lo) hi = x.v then x else ⟨x.t, min (max x.v lo) hi, 1⟩ := rfl
  generalize limitF lo hi x = y at *
  obtain ⟨t, v, q⟩ := x
  have HF := Lib.hid hfin
  clear hfin
  unfold Smp.agg
  rcases Int.lt_or_le v lo with hv | hv
  · simp only at HF
    have hy : y = ⟨t, lo, 1⟩ := by have h := HF.out; rw [show min (max v lo) hi = lo from by omega, if_neg (by omega)] at h; exact h
    have hne : (lo != v) = true := by rw [bne_iff_ne]; omega
    have HY := Lib.hid hy
    clear hy
    go_enter Try.func75, Try.ntmps75
    go_wp2_with fail
    refine bodyPost_ret (v := .agg #[.int .i64 t, .int .i64 lo, .int .i64 1]) (by simp [results, Try.results75, go_sem]) rfl ⟨by rw [HY.out], ((Below.refl _ _).alloc (Nat.le_refl _) _).alloc (by simp) _⟩
  · rcases Int.lt_or_le hi v with hv2 | hv2
    · simp only at HF
      have hy : y = ⟨t, hi, 1⟩ := by have h := HF.out; rw [show min (max v lo) hi = hi from by omega, if_neg (by omega)] at h; exact h
      have hne : (hi != v) = true := by rw [bne_iff_ne]; omega
      have HY := Lib.hid hy
      clear hy
      go_enter Try.func75, Try.ntmps75
      go_wp2_with fail
      refine bodyPost_ret (v := .agg #[.int .i64 t, .int .i64 hi, .int .i64 1]) (by simp [results, Try.results75, go_sem]) rfl ⟨by rw [HY.out], ((Below.refl _ _).alloc (Nat.le_refl _) _).alloc (by simp) _⟩
    · simp only at HF
      have hy : y = ⟨t, v, q⟩ := by have h := HF.out; rw [if_pos (by omega)] at h; exact h
      have hne : (v != v) = false := by simp
      have HY := Lib.hid hy
      clear hy
      go_enter Try.func75, Try.ntmps75
      go_wp2_with fail
      refine bodyPost_ret (v := .agg #[.int .i64 t, .int .i64 v, .int .i64 q]) (by simp [results, Try.results75, go_sem]) rfl ⟨by rw [HY.out], ((Below.refl _ _).alloc (Nat.le_refl _) _).alloc (by simp) _⟩

theorem serFrom_good (p : Option Int) (l : List Smp) (h : serFrom p l = 0) : ∀ x ∈ l, smpErr x = 0 := by
  induction l generalizing p with
  | nil => simp
  | cons y l ih =>
    simp only [serFrom] at h
    intro x hx
    by_cases hy : smpErr y = 0
    · rw [if_neg (by simpa using hy)] at h
      split at h
      · omega
      · rcases List.mem_cons.1 hx with rfl | hx
        · exact hy
        · exact ih _ h x hx
    · rw [if_pos (by simpa using hy)] at h
      exact absurd h hy
theorem serErr_good {l : List Smp} (h : serErr l = 0) : l.length ≤ 5000 ∧ ∀ x ∈ l, smpErr x = 0 := by
  unfold serErr at h
  split at h
  · omega
  · exact ⟨by omega, serFrom_good _ _ h⟩
theorem smpErr_good {x : Smp} (h : smpErr x = 0) : (0 ≤ x.t ∧ x.t ≤ 345686399999) ∧ (0 ≤ x.q ∧ x.q ≤ 2) ∧ (-1000000 ≤ x.v ∧ x.v ≤ 1000000) ∧ (x.q = 2 → x.v = 0) := by
  unfold smpErr inB at h
  simp only [decide_eq_false_iff_not] at h
  split at h; · omega
  split at h; · omega
  split at h; · omega
  split at h; · omega
  rename_i h1 h2 h3 h4
  refine ⟨by omega, by omega, by omega, fun hq => ?_⟩
  by_cases hv : x.v = 0
  · exact hv
  · exact absurd ⟨hq, hv⟩ h4
theorem facErr_good {n d o : Int} (h : facErr n d o = 0) : lowB n d = true ∧ inB n (-1000000) 1000000 = true ∧ (-1000000 ≤ n ∧ n ≤ 1000000) ∧ (1 ≤ d ∧ d ≤ 1000000) ∧ inB o (-1000000) 1000000 = true ∧ (-1000000 ≤ o ∧ o ≤ 1000000) := by
  unfold facErr at h
  split at h; · omega
  split at h; · omega
  rename_i h1 h2
  have h1' : lowB n d = true := by simpa using h1
  have h3 : 0 < d := by simp [lowB] at h1'; exact h1'.1
  have h4 : inB n (-1000000) 1000000 = true := by
    rcases Bool.eq_false_or_eq_true (inB n (-1000000) 1000000) with h | h
    · exact h
    · exact absurd (.inl h) h2
  have h5 : inB o (-1000000) 1000000 = true := by
    rcases Bool.eq_false_or_eq_true (inB o (-1000000) 1000000) with h | h
    · exact h
    · exact absurd (.inr (.inr h)) h2
  exact ⟨h1', h4, inB_true.1 h4, by omega, h5, inB_true.1 h5⟩

def orErr (a b : Int) : Int := if a ≠ 0 then a else b
def scaleR (l : List Smp) (n d o : Int) : List Smp := if orErr (serErr l) (facErr n d o) = 0 then l.map (good (scaleF n d o)) else []

set_option maxRecDepth 100000 in
set_option maxHeartbeats 1000000 in
theorem scale_any (v : Value) (l : List Smp) (n d o : Int) (w : World) (hR : RdS w 27 v l) (hn : -9223372036854775808 ≤ n ∧ n ≤ 9223372036854775807) (hd : -9223372036854775808 ≤ d ∧ d ≤ 9223372036854775807) :
    Calls Try.prog 33 #[v, .agg #[.int .i64 n, .int .i64 d], .int .i64 o] w fun e w' =>
      ∃ v', e = .returned (.tuple #[v', .int .i64 (orErr (serErr l) (facErr n d o))]) ∧ RdS w' 27 v' (scaleR l n d o) ∧ Below w.heap.size w w' := by
  have hmf : ∀ (fn : Fn) (first cap : Array Value) (w : World), (Instr.makeFunc fn first cap).run Try.prog w = .ok (.func fn first cap) w := fun _ _ _ _ => rfl
  have hBf := (Blk.new w 48 #[.int .i64 n, .int .i64 d]).alloc (.cells #[.int .i64 o] 3)
  have hBo := Blk.new1 w (.cells #[.int .i64 n, .int .i64 d] 48) 3 #[.int .i64 o]
  have HBF := Lib.hid hBf
  have HBO := Lib.hid hBo
  clear hBf hBo
  by_cases hS : serErr l = 0
  · have hS' : (serErr l != 0) = false := by simpa using hS
    have HS := Lib.hid hS
    clear hS
    have hfdef : facErr n d o = if lowB n d = false then 3 else if inB n (-1000000) 1000000 = false ∨ 1000000 < d ∨ inB o (-1000000) 1000000 = false then 1 else 0 := rfl
    by_cases hlw : lowB n d = true
    · by_cases hf : facErr n d o = 0
      · obtain ⟨_, hi1, hn1, hd1, hi2, ho1⟩ := facErr_good hf
        have HF := Lib.hid hf
        clear hf hfdef
        go_enter Try.func33, Try.ntmps33
        go_wp2_with fail
        refine (checkSeries_any v l _ (Rd.alloc (Rd.alloc hR _) _)).mono ?_
        rintro e w1 ⟨rfl, hb1⟩
        have hbf1 : Blk w1 w.heap.size 48 #[.int .i64 n, .int .i64 d] := HBF.out.below hb1 (by simp; omega)
        have hbo1 : Blk w1 (w.heap.size + 1) 3 #[.int .i64 o] := HBO.out.below hb1 (by simp)
        have hbw1 : Below w.heap.size w w1 := (((Below.refl _ w).alloc (Nat.le_refl _) _).alloc (by simp) _).trans (hb1.mono (by simp; omega))
        have hz1 : w.heap.size + 1 < w1.heap.size := by have := hb1.size; simp at this; omega
        have c0 : w1.cell? ⟨w.heap.size, 0, none⟩ = some (.int .i64 n) := hbf1.cell 0
        have c1 : w1.cell? ⟨w.heap.size, 1, none⟩ = some (.int .i64 d) := hbf1.cell 1
        have c2 : w1.cell? ⟨w.heap.size + 1, 0, none⟩ = some (.int .i64 o) := hbo1.cell 0
        have HBF1 := Lib.hid hbf1
        have HBO1 := Lib.hid hbo1
        clear hb1 hbf1 hbo1
        go_wp2_with fail
        refine (lowest_any n d _ hn hd).mono ?_
        rintro e w2 ⟨rfl, hb2⟩
        have hbf2 : Blk w2 w.heap.size 48 #[.int .i64 n, .int .i64 d] := HBF1.out.below hb2 (by omega)
        have hbo2 : Blk w2 (w.heap.size + 1) 3 #[.int .i64 o] := HBO1.out.below hb2 (by omega)
        have hbw2 : Below w.heap.size w w2 := hbw1.trans (hb2.mono (by omega))
        have hz2 : w.heap.size + 1 < w2.heap.size := by have := hb2.size; omega
        have d0 : w2.cell? ⟨w.heap.size, 0, none⟩ = some (.int .i64 n) := hbf2.cell 0
        have d1 : w2.cell? ⟨w.heap.size, 1, none⟩ = some (.int .i64 d) := hbf2.cell 1
        have d2 : w2.cell? ⟨w.heap.size + 1, 0, none⟩ = some (.int .i64 o) := hbo2.cell 0
        have HBF2 := Lib.hid hbf2
        have HBO2 := Lib.hid hbo2
        clear hb2 hbf2 hbo2 c0 c1 c2 hbw1 hz1
        go_wp2_with (first | (go_at_call 64; refine (within_any _ _ _ _).mono ?_; rintro e w' ⟨rfl, rfl⟩) | (go_at_call 62; refine (isValue_any _ _).mono ?_; rintro e w' ⟨rfl, rfl⟩))
        obtain ⟨hlen, hall⟩ := serErr_good HS.out
        refine (eachValue_any v l _ 73 _ _ (scaleF n d o) (Rd.below hR (hbw2.mono (Nat.le_refl _))) hlen enter_scale (fun x w' hx hq hb => scale1_any x w.heap.size (w.heap.size + 1) n d o w'
          ((HBF2.out.below hb (by omega)).cell 0) ((HBF2.out.below hb (by omega)).cell 1) ((HBO2.out.below hb hz2).cell 0) (by have := hb.size; omega) (by have := hb.size; omega) (smpErr_good (hall x hx)).2.2.1 hn1 hd1 ho1)).mono ?_
        rintro e w3 ⟨v3, rfl, hown, hb3⟩
        go_wp2_with fail
        go_ret2
        have hE : orErr (serErr l) (facErr n d o) = 0 := by rw [orErr, if_neg (by rw [HS.out]; simp)]; exact HF.out
        refine ⟨v3, by rw [hE]; rfl, ?_, hbw2.trans (hb3.mono hbw2.size)⟩
        have : scaleR l n d o = l.map (good (scaleF n d o)) := by unfold scaleR; rw [hE, if_pos rfl]
        rw [this]
        have hr := Rd.of_own hown
        rw [← List.length_map (f := good (scaleF n d o))] at hr
        exact hr
      · by_cases hi1 : inB n (-1000000) 1000000 = true
        · by_cases hd1 : 1000000 < d
          · have hf1 : facErr n d o = 1 := by rw [hfdef, hlw, if_neg (by simp), if_pos (.inr (.inl hd1))]
            have HF := Lib.hid hf1
            clear hf hfdef hf1
            go_enter Try.func33, Try.ntmps33
            go_wp2_with fail
            refine (checkSeries_any v l _ (Rd.alloc (Rd.alloc hR _) _)).mono ?_
            rintro e w1 ⟨rfl, hb1⟩
            have hbf1 : Blk w1 w.heap.size 48 #[.int .i64 n, .int .i64 d] := HBF.out.below hb1 (by simp; omega)
            have hbo1 : Blk w1 (w.heap.size + 1) 3 #[.int .i64 o] := HBO.out.below hb1 (by simp)
            have hbw1 : Below w.heap.size w w1 := (((Below.refl _ w).alloc (Nat.le_refl _) _).alloc (by simp) _).trans (hb1.mono (by simp; omega))
            have hz1 : w.heap.size + 1 < w1.heap.size := by have := hb1.size; simp at this; omega
            have c0 : w1.cell? ⟨w.heap.size, 0, none⟩ = some (.int .i64 n) := hbf1.cell 0
            have c1 : w1.cell? ⟨w.heap.size, 1, none⟩ = some (.int .i64 d) := hbf1.cell 1
            have c2 : w1.cell? ⟨w.heap.size + 1, 0, none⟩ = some (.int .i64 o) := hbo1.cell 0
            have HBF1 := Lib.hid hbf1
            have HBO1 := Lib.hid hbo1
            clear hb1 hbf1 hbo1
            go_wp2_with fail
            refine (lowest_any n d _ hn hd).mono ?_
            rintro e w2 ⟨rfl, hb2⟩
            have hbf2 : Blk w2 w.heap.size 48 #[.int .i64 n, .int .i64 d] := HBF1.out.below hb2 (by omega)
            have hbo2 : Blk w2 (w.heap.size + 1) 3 #[.int .i64 o] := HBO1.out.below hb2 (by omega)
            have hbw2 : Below w.heap.size w w2 := hbw1.trans (hb2.mono (by omega))
            have hz2 : w.heap.size + 1 < w2.heap.size := by have := hb2.size; omega
            have d0 : w2.cell? ⟨w.heap.size, 0, none⟩ = some (.int .i64 n) := hbf2.cell 0
            have d1 : w2.cell? ⟨w.heap.size, 1, none⟩ = some (.int .i64 d) := hbf2.cell 1
            have d2 : w2.cell? ⟨w.heap.size + 1, 0, none⟩ = some (.int .i64 o) := hbo2.cell 0
            have HBF2 := Lib.hid hbf2
            have HBO2 := Lib.hid hbo2
            clear hb2 hbf2 hbo2 c0 c1 c2 hbw1 hz1
            go_wp2_with (first | (go_at_call 64; refine (within_any _ _ _ _).mono ?_; rintro e w' ⟨rfl, rfl⟩) | (go_at_call 62; refine (isValue_any _ _).mono ?_; rintro e w' ⟨rfl, rfl⟩))
            go_ret2
            have hE : orErr (serErr l) (facErr n d o) = 1 := by rw [orErr, if_neg (by rw [HS.out]; simp)]; exact HF.out
            refine ⟨.slice none 0 0, by rw [hE]; rfl, ?_, hbw2⟩
            have : scaleR l n d o = [] := by unfold scaleR; rw [hE, if_neg (by omega)]
            rw [this]; exact Rd.nil _ _ _
          · by_cases hi2 : inB o (-1000000) 1000000 = true
            · exact absurd (by rw [hfdef, hlw, hi1, hi2, if_neg (by simp), if_neg (by simpa using hd1)]) hf
            · have hi2' : inB o (-1000000) 1000000 = false := by simpa using hi2
              have hf1 : facErr n d o = 1 := by rw [hfdef, hlw, if_neg (by simp), if_pos (.inr (.inr hi2'))]
              have HF := Lib.hid hf1
              clear hf hfdef hf1 hi2
              go_enter Try.func33, Try.ntmps33
              go_wp2_with fail
              refine (checkSeries_any v l _ (Rd.alloc (Rd.alloc hR _) _)).mono ?_
              rintro e w1 ⟨rfl, hb1⟩
              have hbf1 : Blk w1 w.heap.size 48 #[.int .i64 n, .int .i64 d] := HBF.out.below hb1 (by simp; omega)
              have hbo1 : Blk w1 (w.heap.size + 1) 3 #[.int .i64 o] := HBO.out.below hb1 (by simp)
              have hbw1 : Below w.heap.size w w1 := (((Below.refl _ w).alloc (Nat.le_refl _) _).alloc (by simp) _).trans (hb1.mono (by simp; omega))
              have hz1 : w.heap.size + 1 < w1.heap.size := by have := hb1.size; simp at this; omega
              have c0 : w1.cell? ⟨w.heap.size, 0, none⟩ = some (.int .i64 n) := hbf1.cell 0
              have c1 : w1.cell? ⟨w.heap.size, 1, none⟩ = some (.int .i64 d) := hbf1.cell 1
              have c2 : w1.cell? ⟨w.heap.size + 1, 0, none⟩ = some (.int .i64 o) := hbo1.cell 0
              have HBF1 := Lib.hid hbf1
              have HBO1 := Lib.hid hbo1
              clear hb1 hbf1 hbo1
              go_wp2_with fail
              refine (lowest_any n d _ hn hd).mono ?_
              rintro e w2 ⟨rfl, hb2⟩
              have hbf2 : Blk w2 w.heap.size 48 #[.int .i64 n, .int .i64 d] := HBF1.out.below hb2 (by omega)
              have hbo2 : Blk w2 (w.heap.size + 1) 3 #[.int .i64 o] := HBO1.out.below hb2 (by omega)
              have hbw2 : Below w.heap.size w w2 := hbw1.trans (hb2.mono (by omega))
              have hz2 : w.heap.size + 1 < w2.heap.size := by have := hb2.size; omega
              have d0 : w2.cell? ⟨w.heap.size, 0, none⟩ = some (.int .i64 n) := hbf2.cell 0
              have d1 : w2.cell? ⟨w.heap.size, 1, none⟩ = some (.int .i64 d) := hbf2.cell 1
              have d2 : w2.cell? ⟨w.heap.size + 1, 0, none⟩ = some (.int .i64 o) := hbo2.cell 0
              have HBF2 := Lib.hid hbf2
              have HBO2 := Lib.hid hbo2
              clear hb2 hbf2 hbo2 c0 c1 c2 hbw1 hz1
              go_wp2_with (first | (go_at_call 64; refine (within_any _ _ _ _).mono ?_; rintro e w' ⟨rfl, rfl⟩) | (go_at_call 62; refine (isValue_any _ _).mono ?_; rintro e w' ⟨rfl, rfl⟩))
              go_ret2
              have hE : orErr (serErr l) (facErr n d o) = 1 := by rw [orErr, if_neg (by rw [HS.out]; simp)]; exact HF.out
              refine ⟨.slice none 0 0, by rw [hE]; rfl, ?_, hbw2⟩
              have : scaleR l n d o = [] := by unfold scaleR; rw [hE, if_neg (by omega)]
              rw [this]; exact Rd.nil _ _ _
        · have hi1' : inB n (-1000000) 1000000 = false := by simpa using hi1
          have hf1 : facErr n d o = 1 := by rw [hfdef, hlw, if_neg (by simp), if_pos (.inl hi1')]
          have HF := Lib.hid hf1
          clear hf hfdef hf1 hi1
          go_enter Try.func33, Try.ntmps33
          go_wp2_with fail
          refine (checkSeries_any v l _ (Rd.alloc (Rd.alloc hR _) _)).mono ?_
          rintro e w1 ⟨rfl, hb1⟩
          have hbf1 : Blk w1 w.heap.size 48 #[.int .i64 n, .int .i64 d] := HBF.out.below hb1 (by simp; omega)
          have hbo1 : Blk w1 (w.heap.size + 1) 3 #[.int .i64 o] := HBO.out.below hb1 (by simp)
          have hbw1 : Below w.heap.size w w1 := (((Below.refl _ w).alloc (Nat.le_refl _) _).alloc (by simp) _).trans (hb1.mono (by simp; omega))
          have hz1 : w.heap.size + 1 < w1.heap.size := by have := hb1.size; simp at this; omega
          have c0 : w1.cell? ⟨w.heap.size, 0, none⟩ = some (.int .i64 n) := hbf1.cell 0
          have c1 : w1.cell? ⟨w.heap.size, 1, none⟩ = some (.int .i64 d) := hbf1.cell 1
          have c2 : w1.cell? ⟨w.heap.size + 1, 0, none⟩ = some (.int .i64 o) := hbo1.cell 0
          have HBF1 := Lib.hid hbf1
          have HBO1 := Lib.hid hbo1
          clear hb1 hbf1 hbo1
          go_wp2_with fail
          refine (lowest_any n d _ hn hd).mono ?_
          rintro e w2 ⟨rfl, hb2⟩
          have hbf2 : Blk w2 w.heap.size 48 #[.int .i64 n, .int .i64 d] := HBF1.out.below hb2 (by omega)
          have hbo2 : Blk w2 (w.heap.size + 1) 3 #[.int .i64 o] := HBO1.out.below hb2 (by omega)
          have hbw2 : Below w.heap.size w w2 := hbw1.trans (hb2.mono (by omega))
          have hz2 : w.heap.size + 1 < w2.heap.size := by have := hb2.size; omega
          have d0 : w2.cell? ⟨w.heap.size, 0, none⟩ = some (.int .i64 n) := hbf2.cell 0
          have d1 : w2.cell? ⟨w.heap.size, 1, none⟩ = some (.int .i64 d) := hbf2.cell 1
          have d2 : w2.cell? ⟨w.heap.size + 1, 0, none⟩ = some (.int .i64 o) := hbo2.cell 0
          have HBF2 := Lib.hid hbf2
          have HBO2 := Lib.hid hbo2
          clear hb2 hbf2 hbo2 c0 c1 c2 hbw1 hz1
          go_wp2_with (first | (go_at_call 64; refine (within_any _ _ _ _).mono ?_; rintro e w' ⟨rfl, rfl⟩) | (go_at_call 62; refine (isValue_any _ _).mono ?_; rintro e w' ⟨rfl, rfl⟩))
          go_ret2
          have hE : orErr (serErr l) (facErr n d o) = 1 := by rw [orErr, if_neg (by rw [HS.out]; simp)]; exact HF.out
          refine ⟨.slice none 0 0, by rw [hE]; rfl, ?_, hbw2⟩
          have : scaleR l n d o = [] := by unfold scaleR; rw [hE, if_neg (by omega)]
          rw [this]; exact Rd.nil _ _ _
    · have hlw' : lowB n d = false := by simpa using hlw
      have hf1 : facErr n d o = 3 := by rw [hfdef, if_pos hlw']
      have HF := Lib.hid hf1
      clear hfdef hf1 hlw
      go_enter Try.func33, Try.ntmps33
      go_wp2_with fail
      refine (checkSeries_any v l _ (Rd.alloc (Rd.alloc hR _) _)).mono ?_
      rintro e w1 ⟨rfl, hb1⟩
      have hbf1 : Blk w1 w.heap.size 48 #[.int .i64 n, .int .i64 d] := HBF.out.below hb1 (by simp; omega)
      have hbo1 : Blk w1 (w.heap.size + 1) 3 #[.int .i64 o] := HBO.out.below hb1 (by simp)
      have hbw1 : Below w.heap.size w w1 := (((Below.refl _ w).alloc (Nat.le_refl _) _).alloc (by simp) _).trans (hb1.mono (by simp; omega))
      have hz1 : w.heap.size + 1 < w1.heap.size := by have := hb1.size; simp at this; omega
      have c0 : w1.cell? ⟨w.heap.size, 0, none⟩ = some (.int .i64 n) := hbf1.cell 0
      have c1 : w1.cell? ⟨w.heap.size, 1, none⟩ = some (.int .i64 d) := hbf1.cell 1
      have c2 : w1.cell? ⟨w.heap.size + 1, 0, none⟩ = some (.int .i64 o) := hbo1.cell 0
      have HBF1 := Lib.hid hbf1
      have HBO1 := Lib.hid hbo1
      clear hb1 hbf1 hbo1
      go_wp2_with fail
      refine (lowest_any n d _ hn hd).mono ?_
      rintro e w2 ⟨rfl, hb2⟩
      have hbf2 : Blk w2 w.heap.size 48 #[.int .i64 n, .int .i64 d] := HBF1.out.below hb2 (by omega)
      have hbo2 : Blk w2 (w.heap.size + 1) 3 #[.int .i64 o] := HBO1.out.below hb2 (by omega)
      have hbw2 : Below w.heap.size w w2 := hbw1.trans (hb2.mono (by omega))
      have hz2 : w.heap.size + 1 < w2.heap.size := by have := hb2.size; omega
      have d0 : w2.cell? ⟨w.heap.size, 0, none⟩ = some (.int .i64 n) := hbf2.cell 0
      have d1 : w2.cell? ⟨w.heap.size, 1, none⟩ = some (.int .i64 d) := hbf2.cell 1
      have d2 : w2.cell? ⟨w.heap.size + 1, 0, none⟩ = some (.int .i64 o) := hbo2.cell 0
      have HBF2 := Lib.hid hbf2
      have HBO2 := Lib.hid hbo2
      clear hb2 hbf2 hbo2 c0 c1 c2 hbw1 hz1
      go_wp2_with fail
      go_ret2
      have hE : orErr (serErr l) (facErr n d o) = 3 := by rw [orErr, if_neg (by rw [HS.out]; simp)]; exact HF.out
      refine ⟨.slice none 0 0, by rw [hE]; rfl, ?_, hbw2⟩
      have : scaleR l n d o = [] := by unfold scaleR; rw [hE, if_neg (by omega)]
      rw [this]; exact Rd.nil _ _ _
  · have hS' : (serErr l != 0) = true := by simpa using hS
    have HS := Lib.hid hS
    clear hS
    go_enter Try.func33, Try.ntmps33
    go_wp2_with fail
    refine (checkSeries_any v l _ (Rd.alloc (Rd.alloc hR _) _)).mono ?_
    rintro e w1 ⟨rfl, hb1⟩
    go_wp2_with fail
    go_ret2
    have hE : orErr (serErr l) (facErr n d o) = serErr l := if_pos HS.out
    refine ⟨.slice none 0 0, by rw [hE]; rfl, ?_, ?_⟩
    · have : scaleR l n d o = [] := by unfold scaleR; rw [hE, if_neg HS.out]
      rw [this]; exact Rd.nil _ _ _
    · exact (((Below.refl _ w).alloc (Nat.le_refl _) _).alloc (by simp) _).trans (hb1.mono (by simp; omega))
end Go.Proofs.Ytjkncmhmmafmjaa
