/- slices.Compare of two lists of one length. -/
import Derived.Test.YtlahfglblgppgaaBefore
import Derived.Laws.AppendOwnNone
set_option linter.unusedSimpArgs false
set_option linter.unusedVariables false
namespace Go.Proofs.Ytlahfglblgppgaa
open Go.RowKit

def cmpI (x y : Int) : Int := if x < y then -1 else if y < x then 1 else 0
/-- of the m places from k on, the first where they differ says it -/
def cmpL (xs ys : List Int) : Nat → Nat → Int
  | 0, _ => 0
  | m + 1, k => if xs.getD k 0 = ys.getD k 0 then cmpL xs ys m (k + 1) else cmpI (xs.getD k 0) (ys.getD k 0)
theorem cmpL_bef (xs ys : List Int) (m : Nat) : ∀ k, cmpL xs ys m k < 0 ↔ bef xs ys m k = true := by
  induction m with
  | zero => intro k; simp [cmpL, bef]
  | succ m ih =>
    intro k
    simp only [cmpL, bef]
    by_cases e : xs.getD k 0 = ys.getD k 0
    · rw [if_pos e, if_pos e]; exact ih _
    · rw [if_neg e, if_neg e, decide_eq_true_eq]
      unfold cmpI
      by_cases h1 : xs.getD k 0 < ys.getD k 0
      · rw [if_pos h1]; exact ⟨fun _ => h1, fun _ => by decide⟩
      · rw [if_neg h1, if_pos (by omega)]; exact ⟨fun h => absurd h (by decide), fun h => absurd h h1⟩

theorem isNaN (x : Int) (w : World) :
    Calls Try.prog 169 #[.int .i64 x] w fun e w' => e = .returned (.bool false) ∧ Qt w w' := by
  go_enter Try.func169, Try.ntmps169
  go_wp2
  go_ret
  exact ⟨rfl, Qt.refl _⟩

set_option maxRecDepth 100000 in
set_option maxHeartbeats 1600000 in
theorem cmpCompare (x y : Int) (w : World) :
    Calls Try.prog 157 #[.int .i64 x, .int .i64 y] w fun e w' => e = .returned (.int .i64 (cmpI x y)) ∧ Qt w w' := by
  obtain ⟨P, hP⟩ : ∃ P, P = cmpI x y := ⟨_, rfl⟩
  rw [← hP]
  unfold cmpI at hP
  go_enter Try.func157, Try.ntmps157
  go_wp2_with fail
  refine (isNaN x _).mono ?_
  rintro e w1 ⟨rfl, q1⟩
  go_wp2_with fail
  refine (isNaN y _).mono ?_
  rintro e w2 ⟨rfl, q2⟩
  have HQ := Lib.hid (q1.trans q2)
  clear q1 q2
  by_cases h1 : x < y
  · rw [if_pos h1] at hP
    subst hP
    have d1 : decide (x < y) = true := by simpa using h1
    go_wp2
    go_ret
    exact ⟨rfl, HQ.out⟩
  · rw [if_neg h1] at hP
    have g1 : y ≤ x := by omega
    by_cases h2 : y < x
    · rw [if_pos h2] at hP
      subst hP
      go_wp2
      go_ret
      exact ⟨rfl, HQ.out⟩
    · rw [if_neg h2] at hP
      have g2 : x ≤ y := by omega
      subst hP
      go_wp2
      go_ret
      exact ⟨rfl, HQ.out⟩

set_option maxRecDepth 100000 in
set_option maxHeartbeats 1600000 in
theorem slCompare {lo hi lo1 hi1 : Nat} (a : Option Addr) (n c : Nat) (xs : List Int) (a1 : Option Addr) (c1 : Nat) (ys : List Int) (w : World) (h : RdI lo hi w (.slice a n c) xs) (hl : xs.length = n) (h1 : RdI lo1 hi1 w (.slice a1 n c1) ys) (hl1 : ys.length = n) (hn : n ≤ 1000) :
    Calls Try.prog 117 #[.slice a n c, .slice a1 n c1] w fun e w' => e = .returned (.int .i64 (cmpL xs ys n 0)) ∧ Qt w w' := by
  have HX := Lib.hid (fun W' (h' : RdI lo hi W' (.slice a n c) xs) => h'.at hl)
  have HY := Lib.hid (fun W' (h' : RdI lo1 hi1 W' (.slice a1 n c1) ys) => h'.at hl1)
  have H0 := Lib.hid h
  have H1 := Lib.hid h1
  obtain ⟨R, hR⟩ : ∃ R, R = cmpL xs ys n 0 := ⟨_, rfl⟩
  rw [← hR]
  have HP0 := Lib.hid hR.symm
  clear h h1 hl hl1 hR
  go_enter Try.func117, Try.ntmps117
  go_wp2
  go_loopw [11] (fun y wr => ∃ k m : Nat, k + m = n ∧ y = .int .i64 k ∧ Hid (cmpL xs ys m k = R) ∧ Qt w wr) (fun y _ => n - (intOf y).toNat)
  case atStart => exact ⟨0, n, by omega, rfl, HP0, Qt.refl _⟩
  case round =>
    clear HP0
    obtain ⟨k, m, hkm, rfl, HB, hq⟩ := hrel
    cases m with
    | zero =>
      obtain rfl : k = n := by omega
      have hb : (0 : Int) = R := HB.out
      subst hb
      clear HB
      go_wp2
      go_ret
      exact ⟨rfl, hq⟩
    | succ m =>
      have hks : k < n := by omega
      have hb := HB.out
      obtain ⟨b, off, rfl, g0⟩ := HX.out wr (H0.out.qt hq) k hks
      obtain ⟨b1, off1, rfl, g1⟩ := HY.out wr (H1.out.qt hq) k hks
      simp only [cmpL] at hb
      generalize xs.getD k 0 = x at g0 hb
      generalize ys.getD k 0 = y at g1 hb
      have hi0 : (0 : Int) ≤ (k : Int) := by omega
      have hi1 : (k : Int) < (n : Int) := by omega
      have HKM := Lib.hid hkm
      have HQ := Lib.hid hq
      have hkn : ¬ (n : Int) ≤ (k : Int) := by omega
      by_cases e : x = y
      · rw [if_pos e] at hb
        have HF := Lib.hid hb
        have hcc : cmpI x y = 0 := by subst e; simp [cmpI]
        clear hkm hb HB hq e
        go_wp2_with fail
        refine (cmpCompare x y _).mono ?_
        rw [hcc]
        clear hcc
        rintro e w2 ⟨rfl, q2⟩
        have HQ2 := Lib.hid (HQ.out.trans q2)
        clear q2 g0 g1
        go_wp2
        go_roundw
        case rel => exact ⟨k+1, m, by have := HKM.out; omega, by go_num, HF, HQ2.out⟩
        case measure => simp [intOf]; omega
      · rw [if_neg e] at hb
        have hcn : ¬ cmpI x y = 0 := by
          unfold cmpI
          by_cases h1 : x < y
          · rw [if_pos h1]; decide
          · rw [if_neg h1, if_pos (by omega)]; decide
        have hcc := cmpCompare x y
        generalize cmpI x y = z at hcc hcn hb
        have hcb : (z != 0) = true := by simpa using hcn
        have HCC := Lib.hid hcc
        clear hkm HB hq e hcc hcn
        subst hb
        go_wp2_with fail
        refine (HCC.out _).mono ?_
        rintro e w2 ⟨rfl, q2⟩
        have HQ2 := Lib.hid (HQ.out.trans q2)
        clear q2 g0 g1
        go_wp2
        go_ret
        exact ⟨rfl, HQ2.out⟩

theorem eqNil (ad : Addr) (n cap : Nat) (w : World) : Sem.run Try.prog (binOp BinOp.eql 26 (.slice (some ad) n cap) (.slice none 0 0)) w = .ok (Value.bool false) w := by kernel_rfl

theorem slClone (n cap : Nat) (ad : Addr) (xs : List Int) (w : World) (hn : n ≤ 17592186044416) (hx : xs.length = n)
    (hc : ∀ j u, (xs.map (Value.int .i64))[j]? = some u → w.cell? (ad.add j) = some u) :
    Calls Try.prog 118 #[.slice (some ad) n cap] w fun e w' => ∃ v, e = .returned v ∧ w'.ownsRow w.heap.size 2 1 v n (xs.map (Value.int .i64)) ∧ Below w.heap.size w w' := by
  obtain ⟨i0, hi', z0, z1, z2⟩ := info_parts Try.info2
  have HC := Lib.hid hc
  have HX := Lib.hid hx
  clear hc hx
  have hown : (w.alloc (.cells #[] 2)).ownsRow w.heap.size 2 1 (.slice (some ⟨w.heap.size, 0, none⟩) 0 0) 0 [] := World.ownsRow_lit w #[] 0 (Nat.le_refl _) (by unfold maxLen; omega) rfl
  have hnil := eqNil
  go_enter Try.func118, Try.ntmps118
  go_wp2_with (at_builtin; refine wpList_append_own _ rfl _ _ 26 rfl w.heap.size 2 i0 (.int .i64 0) 1 8 Try.underlying26 hi' z0 z1 z2 rfl (by decide) _ _ _ rfl hown ad n cap (xs.map (Value.int .i64)) rfl ?c0 ?c1 ?c2 ?c3 ?c4 ?c5 ?_)
  case c0 => rw [List.length_map, HX.out]; omega
  case c1 =>
    intro j u hj
    have h1 := HC.out j u hj
    have hb := World.block_lt_of_cell? w _ h1
    exact (World.cell?_of_block (w := w) (Below.heap_alloc w _ _ hb)).trans h1
  case c2 => intro u hu; simp at hu; obtain ⟨x, _, rfl⟩ := hu; rfl
  case c3 => unfold maxLen; omega
  case c4 => omega
  case c5 => simp
  intro v3 w3 hown3 hgr _
  have hb : Below w.heap.size w w3 := ((Below.refl w.heap.size w).alloc (Nat.le_refl _) (.cells #[] 2)).grown hgr (by simp) (fun k hk => by have := (hown.lt k hk).1; omega)
  clear hgr hown
  go_wp2
  go_ret
  exact ⟨_, rfl, hown3, hb⟩

end Go.Proofs.Ytlahfglblgppgaa
