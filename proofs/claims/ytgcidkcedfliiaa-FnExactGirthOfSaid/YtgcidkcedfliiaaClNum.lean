/- ClosedNumber, both sides; the code of a graph and a length, by the program. -/
import Derived.Test.YtgcidkcedfliiaaSpecCl
import Derived.Test.YtgcidkcedfliiaaUnit
set_option linter.unusedSimpArgs false
set_option linter.unusedVariables false
namespace Go.Proofs.Ytgcidkcedfliiaa
open Go.RowKit

set_option maxRecDepth 100000 in
set_option maxHeartbeats 1600000 in
theorem checkLength {lo hi : Nat} (s : Int) (a : Option Addr) (n c : Nat) (xss : List (List Int)) (k low : Int) (w : World) (h : RdR lo hi w (.slice a n c) xss) (hn : xss.length = n) :
    Calls Try.prog 87 #[.agg #[.int .i64 s, .slice a n c], .int .i64 k, .int .i64 low] w fun e w' => e = .returned (.int .i64 (ccode s xss k low 12)) ∧ Below w.heap.size w w' := by
  have HR := Lib.hid h
  have HI := Lib.hid (fun W' (h' : RdR lo hi W' (.slice a n c) xss) => implIsGraph s a n c xss W' h' hn)
  obtain ⟨P, hP⟩ : ∃ P, P = ccode s xss k low 12 := ⟨_, rfl⟩
  rw [← hP]
  unfold ccode at hP
  have HP := Lib.hid hP
  clear h hn hP
  go_enter Try.func87, Try.ntmps87
  go_wp2_with fail
  refine calls_gen (fun W => Below w.heap.size w W) ((Below.refl _ _).alloc (Nat.le_refl _) _) ?_
  rintro W hB
  refine (HI.out W (HR.out.below hB)).mono ?_
  have hP := HP.out
  clear HP
  cases hg : grB s xss with
  | false =>
    rintro e w1 ⟨rfl, b1⟩
    replace hB := hB.next b1
    rw [hg, if_neg (by simp)] at hP
    clear b1 hg
    subst hP
    go_wp2
    go_ret
    exact ⟨rfl, hB⟩
  | true =>
    rw [hg, if_pos rfl] at hP
    clear hg
    rintro e w1 ⟨rfl, b1⟩
    replace hB := hB.next b1
    clear b1
    by_cases h1 : low ≤ k
    · have d1 : decide (k < low) = false := by simp; omega
      by_cases h2 : k ≤ 12
      · have d2 : decide (12 < k) = false := by simp; omega
        rw [if_pos ⟨h1, h2⟩] at hP
        clear h1 h2
        subst hP
        go_wp2
        go_ret
        exact ⟨rfl, hB⟩
      · have d2 : decide (12 < k) = true := by simp; omega
        rw [if_neg (by omega)] at hP
        clear h1 h2
        subst hP
        go_wp2
        go_ret
        exact ⟨rfl, hB⟩
    · have d1 : decide (k < low) = true := by simp; omega
      rw [if_neg (by omega)] at hP
      clear h1
      subst hP
      go_wp2
      go_ret
      exact ⟨rfl, hB⟩

def clnOf (s : Int) (xss : List (List Int)) (k : Int) : Int × Int := if ccode s xss k 1 12 = 0 then (clN (2 * xss.length) (edgeM (dirE (pairs xss))) k.toNat, 0) else (0, ccode s xss k 1 12)

set_option maxRecDepth 100000 in
set_option maxHeartbeats 1600000 in
theorem specClN {lo hi : Nat} (s : Int) (a : Option Addr) (n c : Nat) (xss : List (List Int)) (k : Int) (w : World) (h : RdR lo hi w (.slice a n c) xss) (hn : xss.length = n) :
    Calls Try.prog 46 #[.agg #[.int .i64 s, .slice a n c], .int .i64 k] w fun e w' => e = .returned (.tuple #[.int .i64 (clnOf s xss k).1, .int .i64 (clnOf s xss k).2]) ∧ Below w.heap.size w w' := by
  have HR := Lib.hid h
  have HC := Lib.hid (fun W' (h' : RdR lo hi W' (.slice a n c) xss) => l03Length s a n c xss k 1 W' h' hn)
  have HS := Lib.hid (fun W' (h' : RdR lo hi W' (.slice a n c) xss) hg (k : Nat) h1 h2 => l03Count s a n c xss k W' h' hn hg h1 h2)
  have HO := Lib.hid (fun h => ccode_ok (s := s) (xss := xss) (k := k) (low := 1) (top := 12) h)
  obtain ⟨P, hP⟩ : ∃ P, P = clnOf s xss k := ⟨_, rfl⟩
  rw [← hP]
  unfold clnOf at hP
  rw [hn] at hP
  generalize ccode s xss k 1 12 = code at HC HO hP
  have HP := Lib.hid hP
  clear h hn hP
  go_enter Try.func46, Try.ntmps46
  go_wp2_with fail
  refine calls_gen (fun W => Below w.heap.size w W ∧ W.cell? ⟨w.heap.size, 0, none⟩ = some (.int .i64 s) ∧ W.cell? ⟨w.heap.size, 1, none⟩ = some (.slice a n c)) ⟨(Below.refl _ _).alloc (Nat.le_refl _) _, by go_simp, by go_simp⟩ ?_
  rintro W ⟨hB, k0, k1⟩
  refine (HC.out W (HR.out.below hB)).mono ?_
  rintro e w1 ⟨rfl, b1⟩
  replace hB := hB.next b1
  replace k0 := b1.keep k0
  replace k1 := b1.keep k1
  clear b1
  have hP := HP.out
  clear HP
  by_cases hc : code = 0
  · obtain ⟨hg, hk1, hk2⟩ := HO.out hc
    subst hc
    rw [if_pos rfl] at hP
    obtain ⟨q, rfl⟩ : ∃ q : Nat, k = (q : Int) := ⟨k.toNat, by omega⟩
    rw [Int.toNat_natCast] at hP
    have hS := HS.out w1 (HR.out.below hB) hg q (by omega) (by omega)
    generalize clN (2 * n) (edgeM (dirE (pairs xss))) q = v at hS hP
    subst hP
    clear hg HO HS hk1 hk2
    go_wp2_with fail
    refine hS.mono ?_
    clear hS
    rintro e w2 ⟨rfl, b2⟩
    replace hB := hB.next b2
    clear b2 k0 k1
    go_wp2
    refine bodyPost_ret (v := .tuple #[.int .i64 v, .int .i64 0]) (by simp [results, Try.results46, go_sem]) rfl ⟨rfl, hB⟩
  · rw [if_neg hc] at hP
    have hcb : (code != 0) = true := by simpa using hc
    clear hc k0 k1
    subst hP
    go_wp2
    refine bodyPost_ret (v := .tuple #[.int .i64 0, .int .i64 code]) (by simp [results, Try.results46, go_sem]) rfl ⟨rfl, hB⟩

set_option maxRecDepth 100000 in
set_option maxHeartbeats 1600000 in
theorem implClN {lo hi : Nat} (s : Int) (a : Option Addr) (n c : Nat) (xss : List (List Int)) (k : Int) (w : World) (h : RdR lo hi w (.slice a n c) xss) (hn : xss.length = n) :
    Calls Try.prog 47 #[.agg #[.int .i64 s, .slice a n c], .int .i64 k] w fun e w' => e = .returned (.tuple #[.int .i64 (clnOf s xss k).1, .int .i64 (clnOf s xss k).2]) ∧ Below w.heap.size w w' := by
  have HR := Lib.hid h
  have HC := Lib.hid (fun W' (h' : RdR lo hi W' (.slice a n c) xss) => checkLength s a n c xss k 1 W' h' hn)
  have HS := Lib.hid (fun W' (h' : RdR lo hi W' (.slice a n c) xss) hg (k : Nat) h1 => closedNumbers s a n c xss k W' h' hn hg h1)
  have HO := Lib.hid (fun h => ccode_ok (s := s) (xss := xss) (k := k) (low := 1) (top := 12) h)
  have HN10 := Lib.hid (fun hg : grB s xss = true => show 2 * n ≤ 20 by have := grB_iff hg; omega)
  obtain ⟨P, hP⟩ : ∃ P, P = clnOf s xss k := ⟨_, rfl⟩
  rw [← hP]
  unfold clnOf at hP
  rw [hn] at hP
  generalize ccode s xss k 1 12 = code at HC HO hP
  have HP := Lib.hid hP
  clear h hn hP
  go_enter Try.func47, Try.ntmps47
  go_wp2_with fail
  refine calls_gen (fun W => Below w.heap.size w W ∧ W.cell? ⟨w.heap.size, 0, none⟩ = some (.int .i64 s) ∧ W.cell? ⟨w.heap.size, 1, none⟩ = some (.slice a n c)) ⟨(Below.refl _ _).alloc (Nat.le_refl _) _, by go_simp, by go_simp⟩ ?_
  rintro W ⟨hB, k0, k1⟩
  refine (HC.out W (HR.out.below hB)).mono ?_
  rintro e w1 ⟨rfl, b1⟩
  replace hB := hB.next b1
  replace k0 := b1.keep k0
  replace k1 := b1.keep k1
  clear b1
  have hP := HP.out
  clear HP
  by_cases hc : code = 0
  · obtain ⟨hg, hk1, hk2⟩ := HO.out hc
    subst hc
    rw [if_pos rfl] at hP
    obtain ⟨q, rfl⟩ : ∃ q : Nat, k = ((q + 1 : Nat) : Int) := ⟨(k - 1).toNat, by omega⟩
    rw [Int.toNat_natCast, ← clN_trW (HN10.out hg) (edgeM_01 _) (by omega)] at hP
    have hS := HS.out w1 (HR.out.below hB) hg (q + 1) (by omega)
    have hget := cls_get (2 * n) (edgeM (dirE (pairs xss))) (k := q + 1) (j := q) (by omega)
    have hlen := cls_len (2 * n) (edgeM (dirE (pairs xss))) (q + 1)
    generalize trW (pwW (2 * n) (edgeM (dirE (pairs xss))) (q + 1)) (2 * n) = v at hget hP
    generalize cls (2 * n) (edgeM (dirE (pairs xss))) (q + 1) = cs at hS hget hlen
    have hq12 : q ≤ 11 := by omega
    have HGL := Lib.hid (⟨hget, hlen⟩ : _ ∧ _)
    subst hP
    clear hg HO HS hk1 hk2 hget hlen HN10
    go_wp2_with fail
    refine hS.mono ?_
    clear hS
    rintro e w2 ⟨a', c', rfl, o2, b2⟩
    replace hB := hB.next b2
    obtain ⟨b, off, rfl, g0⟩ := o2.rd.at' HGL.out.2 q (by omega)
    rw [HGL.out.1] at g0
    have hi0 : (0 : Int) ≤ (q : Int) := by omega
    have hi1 : (q : Int) < (q : Int) + 1 := by omega
    have HB := Lib.hid hB
    clear b2 k0 k1 o2 hB
    have v1 : IntKind.i64.wrap (q : Int) = (q : Int) := IntWalk.i64_in _ (by omega)
    have v2 : wrap64 (q : Int) = (q : Int) := IntWalk.wrap64_in _ (by clear v1; omega)
    go_wp2
    refine bodyPost_ret (v := .tuple #[.int .i64 v, .int .i64 0]) (by simp [results, Try.results47, go_sem]) rfl ⟨rfl, HB.out⟩
  · rw [if_neg hc] at hP
    have hcb : (code != 0) = true := by simpa using hc
    clear hc k0 k1
    subst hP
    go_wp2
    refine bodyPost_ret (v := .tuple #[.int .i64 0, .int .i64 code]) (by simp [results, Try.results47, go_sem]) rfl ⟨rfl, hB⟩

end Go.Proofs.Ytgcidkcedfliiaa
