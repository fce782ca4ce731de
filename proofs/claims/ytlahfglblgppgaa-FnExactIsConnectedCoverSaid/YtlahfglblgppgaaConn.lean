/- IsConnectedCover of the program and of the model. -/
import Derived.Test.YtlahfglblgppgaaWide
import Derived.Test.YtlahfglblgppgaaDerI
import Derived.Test.YtlahfglblgppgaaDerS
set_option linter.unusedSimpArgs false
set_option linter.unusedVariables false
set_option maxRecDepth 100000
namespace Go.Proofs.Ytlahfglblgppgaa
open Go.RowKit

set_option maxHeartbeats 1600000 in
theorem slMax {lo hi : Nat} (a : Option Addr) (c S : Nat) (L : List Nat) (w : World) (h : RdI lo hi w (.slice a S c) (zs L)) (hL : L.length = S) (h1 : 1 ≤ S) (h32 : S ≤ 32) (hb : ∀ v, v < S → lab L v ≤ 32) :
    Calls Try.prog 107 #[.slice a S c] w fun e w' => (∃ m : Nat, e = .returned (.int .i64 (m : Int)) ∧ (m = 0 ↔ ∀ v, v < S → lab L v = 0)) ∧ Qt w w' := by
  have HC := Lib.hid (h.at (show (zs L).length = S by rw [zs_len, hL]))
  have HB := Lib.hid hb
  have HZ := Lib.hid (fun j (hj : j < S) => (zs_get (show j < L.length by rw [hL]; exact hj)))
  clear h hL hb
  obtain ⟨b, off, rfl, g0⟩ := HC.out 0 (by omega)
  rw [HZ.out 0 (by omega), Nat.add_zero] at g0
  obtain ⟨m0, hm0⟩ : ∃ m0, m0 = lab L 0 := ⟨_, rfl⟩
  rw [← hm0] at g0
  have HM0 := Lib.hid hm0
  have hn1 : ¬ (S : Int) < 1 := by omega
  have hn2 : (0 : Int) < (S : Int) := by omega
  clear hm0
  go_enter Try.func107, Try.ntmps107
  go_wp2
  go_loopw [3, 4] (fun v i wr => ∃ k m : Nat, 1 ≤ k ∧ k ≤ S ∧ i = .int .i64 k ∧ v = .int .i64 m ∧ Hid (m = 0 ↔ ∀ v, v < k → lab L v = 0) ∧ Qt w wr) (fun _ i _ => S - (intOf i).toNat)
  case atStart =>
    refine ⟨1, m0, Nat.le_refl _, h1, rfl, rfl, Lib.hid ⟨fun e v hv => ?_, fun e => ?_⟩, Qt.refl _⟩
    · have e0 : v = 0 := by omega
      rw [e0, ← HM0.out, e]
    · rw [HM0.out]; exact e 0 (by omega)
  case round =>
    obtain ⟨k, m, hk1, hk, rfl, rfl, HI, hq⟩ := hrel
    by_cases hlt : k < S
    · obtain ⟨b', off', hbb, g1⟩ := HC.out k hlt
      obtain ⟨rfl, rfl⟩ : b' = b ∧ off' = off := by simp at hbb; exact ⟨hbb.1.symm, hbb.2.symm⟩
      replace g1 := hq.cell g1
      rw [HZ.out k hlt] at g1
      have hx32 := HB.out k hlt
      obtain ⟨x, hx⟩ : ∃ x, x = lab L k := ⟨_, rfl⟩
      rw [← hx] at g1
      have HX := Lib.hid hx
      clear hx hbb
      by_cases hmx : m < x
      · have e1 : (m : Int) < (x : Int) := by omega
        have e2 : ¬ (x : Int) < (m : Int) := by omega
        have HN : Hid (x = 0 ↔ ∀ v, v < k + 1 → lab L v = 0) := Lib.hid ⟨fun e => by omega, fun e => by rw [HX.out]; exact e k (by omega)⟩
        go_wp2
        go_roundw
        case rel => exact ⟨k+1, x, by omega, by omega, by go_num, rfl, HN, hq⟩
        case measure => simp [intOf]; omega
      · have HN : Hid (m = 0 ↔ ∀ v, v < k + 1 → lab L v = 0) := Lib.hid ⟨fun e v hv => by
          by_cases e2 : v < k
          · exact HI.out.1 e v e2
          · obtain rfl : v = k := by omega
            rw [← HX.out]; omega, fun e => HI.out.2 (fun v hv => e v (by omega))⟩
        by_cases hxm : x < m
        · have e1 : (x : Int) < (m : Int) := by omega
          have e2 : ¬ (m : Int) < (x : Int) := by omega
          go_wp2
          go_roundw
          case rel => exact ⟨k+1, m, by omega, by omega, by go_num, rfl, HN, hq⟩
          case measure => simp [intOf]; omega
        · obtain rfl : x = m := by omega
          go_wp2
          go_roundw
          case rel => exact ⟨k+1, x, by omega, by omega, by go_num, rfl, HN, hq⟩
          case measure => simp [intOf]; omega
    · obtain rfl : k = S := by omega
      go_wp2
      go_ret
      exact ⟨⟨m, rfl, HI.out⟩, hq⟩

/-- the derived rows as a graph without limits -/
theorem der_wide {s : Nat} {xss : List (List Int)} {S : Nat} {ts : List (List Int)} (h : cvB (s : Int) xss (S : Int) ts = true) : grW (((s * S : Nat)) : Int) (derR S xss ts xss.length) = true := by
  obtain ⟨hg, hn, ⟨hs1, hs4⟩, htl, hpm⟩ := cvB_hd h
  have hg4 := grB_iff hg
  have hin := derE_in (S := S) (s := s) (es := pairs xss) (ts := ts) (n := xss.length) (fun q hq => by
    have := hg4.2.2.2 q hq
    rw [pairs_getD]
    simp only
    omega) (fun q hq j hj => by
    have hp : permB (S : Int) (ts.getD q []) = true := List.all_eq_true.1 hpm _ (by simp [List.getD, List.getElem?_eq_getElem (show q < ts.length by omega)])
    have hl := permB_len hp
    have := permB_in hp j (by omega)
    unfold inR at this
    simp only [Bool.and_eq_true, decide_eq_true_eq] at this
    exact this) xss.length (Nat.le_refl _)
  have hpos : 1 ≤ s * S := Nat.mul_pos (by omega) (by omega)
  have hle : s * S ≤ 32 := Nat.mul_le_mul (show s ≤ 8 by omega) (show S ≤ 4 by omega)
  have hlen : (derR S xss ts xss.length).length ≤ 40 := by rw [derR_len]; exact Nat.mul_le_mul (show xss.length ≤ 10 by omega) (show S ≤ 4 by omega)
  unfold grW
  simp only [Bool.and_eq_true, decide_eq_true_eq, List.all_eq_true]
  refine ⟨by omega, by omega, hlen, fun e he => ?_⟩
  unfold derR unp at he
  rw [List.mem_map] at he
  obtain ⟨p, hp, rfl⟩ := he
  have := hin p hp
  rw [← Int.natCast_mul] at this
  unfold edgeOk inR
  simp only [Bool.and_eq_true, decide_eq_true_eq]
  simp
  omega

def connOf (s : Int) (xss : List (List Int)) (sh : Int) (ts : List (List Int)) : Bool × Int :=
  if cvB s xss sh ts = true then (decide (∀ v, v < s.toNat * sh.toNat → lab (labelsN (s.toNat * sh.toNat) (nE (derR sh.toNat xss ts xss.length))) v = 0), 0) else (false, 1)

set_option maxHeartbeats 1600000 in
theorem implConn {lo hi lo' hi' : Nat} (s : Int) (a : Option Addr) (n c : Nat) (xss : List (List Int)) (sh : Int) (ta : Option Addr) (tn tc : Nat) (ts : List (List Int)) (w : World)
    (h : RdR lo hi w (.slice a n c) xss) (hn : xss.length = n) (h' : RdR lo' hi' w (.slice ta tn tc) ts) (hn' : ts.length = tn) :
    Calls Try.prog 54 #[.agg #[.int .i64 s, .slice a n c, .int .i64 sh, .slice ta tn tc]] w fun e w' => e = .returned (.tuple #[.bool (connOf s xss sh ts).1, .int .i64 (connOf s xss sh ts).2]) ∧ Below w.heap.size w w' := by
  have hb0 : ∀ o, Below w.heap.size w (w.alloc o) := fun o => (Below.refl _ _).alloc (Nat.le_refl _) o
  have HN := Lib.hid hn
  have HN' := Lib.hid hn'
  have HR := Lib.hid h
  have HR' := Lib.hid h'
  obtain ⟨P, hP⟩ : ∃ P, P = connOf s xss sh ts := ⟨_, rfl⟩
  rw [← hP]
  unfold connOf at hP
  rw [hn] at hP
  have HP := Lib.hid hP
  clear hn h hn' h' hP
  go_enter Try.func54, Try.ntmps54
  go_wp2_with fail
  refine calls_gen (fun W => Below w.heap.size w W ∧ W.cell? ⟨w.heap.size, 0, none⟩ = some (.int .i64 s) ∧ W.cell? ⟨w.heap.size, 1, none⟩ = some (.slice a n c) ∧ W.cell? ⟨w.heap.size, 2, none⟩ = some (.int .i64 sh) ∧ W.cell? ⟨w.heap.size, 3, none⟩ = some (.slice ta tn tc)) ⟨hb0 _, by go_simp, by go_simp, by go_simp, by go_simp⟩ ?_
  rintro W ⟨hB, k0, k1, k2, k3⟩
  refine (implIsCover s a n c xss sh ta tn tc ts W (HR.out.below hB) HN.out (HR'.out.below hB) HN'.out).mono ?_
  rintro e w1 ⟨rfl, b1⟩
  replace k0 := b1.keep k0
  replace k1 := b1.keep k1
  replace k2 := b1.keep k2
  replace k3 := b1.keep k3
  replace hB := hB.next b1
  clear b1
  cases hc : cvB s xss sh ts with
  | false =>
    have hP := HP.out
    rw [hc, if_neg (by simp)] at hP
    subst hP
    clear HP hc k0 k1 k2 k3
    go_wp2
    refine bodyPost_ret (v := .tuple #[.bool false, .int .i64 1]) (by simp [results, Try.results54, go_sem]) rfl ⟨rfl, hB⟩
  | true =>
  obtain ⟨hg, hnn, ⟨hs1, hs4⟩, htl, hpm⟩ := cvB_hd hc
  have hg4 := grB_iff hg
  obtain ⟨S0, rfl⟩ : ∃ S0 : Nat, s = (S0 : Int) := ⟨s.toNat, by omega⟩
  obtain ⟨S1, rfl⟩ : ∃ S1 : Nat, sh = (S1 : Int) := ⟨sh.toNat, by omega⟩
  have hP := HP.out
  rw [hc, if_pos rfl, Int.toNat_natCast, Int.toNat_natCast] at hP
  have HPP := Lib.hid hP
  have HGW := Lib.hid (der_wide hc)
  have HD := Lib.hid (derivedOf S0 a n c xss S1 ta tn tc ts w1 (HR.out.below hB) HN.out (HR'.out.below hB) HN'.out hc)
  have hpos : 1 ≤ S0 * S1 := Nat.mul_pos (by omega) (by omega)
  have hle : S0 * S1 ≤ 32 := Nat.mul_le_mul (show S0 ≤ 8 by omega) (show S1 ≤ 4 by omega)
  rw [← Int.natCast_mul] at HD
  rw [HN.out] at HGW
  generalize derR S1 xss ts n = rows at HD HGW HPP
  generalize hZ : S0 * S1 = Z at *
  clear HP hP hc hg hg4 hpm hs1 hs4 htl hnn hZ
  go_wp2_with fail
  refine HD.out.mono ?_
  rintro e w2 ⟨a', c', rfl, o2, b2⟩
  have o2' := o2.rd
  replace hB := hB.next b2
  clear HD b2 k0 k1 k2 k3
  go_wp2_with fail
  refine (firstsOfW Z a' rows.length c' rows w2 o2' rfl HGW.out).mono ?_
  rintro e w3 ⟨a3, c3, rfl, o3, b3⟩
  replace hB := hB.next b3
  have hLI := labelsI (nE_inW HGW.out)
  have hLL := hLI.len
  have hle2 := hLI.le
  generalize labelsN Z (nE rows) = L at *
  have o3' := o3.rd
  clear o2 o2' b3 hLI
  go_wp2_with fail
  refine (slMax a3 c3 Z L w3 o3' hLL hpos hle (fun v hv => by have := hle2 v hv; omega)).mono ?_
  rintro e w4 ⟨⟨m, rfl, hm⟩, q4⟩
  have hb : ((m : Int) == 0) = decide (∀ v, v < Z → lab L v = 0) := by
    by_cases e : m = 0
    · rw [decide_eq_true (hm.1 e), e]; rfl
    · rw [decide_eq_false (fun h => e (hm.2 h))]; simp; exact e
  have HF := Lib.hid (⟨hb, hB.qt q4⟩ : _ ∧ _)
  clear hm q4 hB o3 o3' hle2 hb
  go_wp2
  refine bodyPost_ret (v := .tuple #[.bool ((m : Int) == 0), .int .i64 0]) (by simp [results, Try.results54, go_sem]) rfl ⟨by rw [HPP.out, HF.out.1], HF.out.2⟩

set_option maxHeartbeats 1600000 in
theorem specConn {lo hi lo' hi' : Nat} (s : Int) (a : Option Addr) (n c : Nat) (xss : List (List Int)) (sh : Int) (ta : Option Addr) (tn tc : Nat) (ts : List (List Int)) (w : World)
    (h : RdR lo hi w (.slice a n c) xss) (hn : xss.length = n) (h' : RdR lo' hi' w (.slice ta tn tc) ts) (hn' : ts.length = tn) :
    Calls Try.prog 53 #[.agg #[.int .i64 s, .slice a n c, .int .i64 sh, .slice ta tn tc]] w fun e w' => e = .returned (.tuple #[.bool (connOf s xss sh ts).1, .int .i64 (connOf s xss sh ts).2]) ∧ Below w.heap.size w w' := by
  have hb0 : ∀ o, Below w.heap.size w (w.alloc o) := fun o => (Below.refl _ _).alloc (Nat.le_refl _) o
  have HN := Lib.hid hn
  have HN' := Lib.hid hn'
  have HR := Lib.hid h
  have HR' := Lib.hid h'
  obtain ⟨P, hP⟩ : ∃ P, P = connOf s xss sh ts := ⟨_, rfl⟩
  rw [← hP]
  unfold connOf at hP
  rw [hn] at hP
  have HP := Lib.hid hP
  clear hn h hn' h' hP
  go_enter Try.func53, Try.ntmps53
  go_wp2_with fail
  refine calls_gen (fun W => Below w.heap.size w W ∧ W.cell? ⟨w.heap.size, 0, none⟩ = some (.int .i64 s) ∧ W.cell? ⟨w.heap.size, 1, none⟩ = some (.slice a n c) ∧ W.cell? ⟨w.heap.size, 2, none⟩ = some (.int .i64 sh) ∧ W.cell? ⟨w.heap.size, 3, none⟩ = some (.slice ta tn tc)) ⟨hb0 _, by go_simp, by go_simp, by go_simp, by go_simp⟩ ?_
  rintro W ⟨hB, k0, k1, k2, k3⟩
  refine (l04Is s a n c xss sh ta tn tc ts W (HR.out.below hB) HN.out (HR'.out.below hB) HN'.out).mono ?_
  rintro e w1 ⟨rfl, b1⟩
  replace k0 := b1.keep k0
  replace k1 := b1.keep k1
  replace k2 := b1.keep k2
  replace k3 := b1.keep k3
  replace hB := hB.next b1
  clear b1
  cases hc : cvB s xss sh ts with
  | false =>
    have hP := HP.out
    rw [hc, if_neg (by simp)] at hP
    subst hP
    clear HP hc k0 k1 k2 k3
    go_wp2
    refine bodyPost_ret (v := .tuple #[.bool false, .int .i64 1]) (by simp [results, Try.results53, go_sem]) rfl ⟨rfl, hB⟩
  | true =>
  obtain ⟨hg, hnn, ⟨hs1, hs4⟩, htl, hpm⟩ := cvB_hd hc
  have hg4 := grB_iff hg
  obtain ⟨S0, rfl⟩ : ∃ S0 : Nat, s = (S0 : Int) := ⟨s.toNat, by omega⟩
  obtain ⟨S1, rfl⟩ : ∃ S1 : Nat, sh = (S1 : Int) := ⟨sh.toNat, by omega⟩
  have hP := HP.out
  rw [hc, if_pos rfl, Int.toNat_natCast, Int.toNat_natCast] at hP
  have HPP := Lib.hid hP
  have HGW := Lib.hid (der_wide hc)
  have HD := Lib.hid (l04Derived S0 a n c xss S1 ta tn tc ts w1 (HR.out.below hB) HN.out (HR'.out.below hB) HN'.out hc)
  have hpos : 1 ≤ S0 * S1 := Nat.mul_pos (by omega) (by omega)
  have hle : S0 * S1 ≤ 32 := Nat.mul_le_mul (show S0 ≤ 8 by omega) (show S1 ≤ 4 by omega)
  rw [← Int.natCast_mul] at HD
  rw [HN.out] at HGW
  generalize derR S1 xss ts n = rows at HD HGW HPP
  generalize hZ : S0 * S1 = Z at *
  clear HP hP hc hg hg4 hpm hs1 hs4 htl hnn hZ
  go_wp2_with fail
  refine HD.out.mono ?_
  rintro e w2 ⟨a', c', rfl, o2, b2⟩
  have o2' := o2.rd
  replace hB := hB.next b2
  clear HD b2 k0 k1 k2 k3
  go_wp2_with fail
  refine (l01PartsW Z a' rows.length c' rows w2 o2' rfl HGW.out).mono ?_
  rintro e w3 ⟨a3, c3, rfl, o3, b3⟩
  replace hB := hB.next b3
  have hLI := labelsI (nE_inW HGW.out)
  have hLL := hLI.len
  have hle2 := hLI.le
  generalize labelsN Z (nE rows) = L at *
  have o3' := o3.rd
  clear o2 o2' b3 hLI
  have HC := Lib.hid (o3'.at (show (zs L).length = Z by rw [zs_len, hLL]))
  have HZ := Lib.hid (fun j (hj : j < Z) => (zs_get (show j < L.length by rw [hLL]; exact hj)))
  have H0 := Lib.hid (show lab L 0 = 0 by have := hle2 0 (by omega); omega)
  have HB := Lib.hid hB
  clear o3 o3' hB hle2 hLL
  obtain ⟨b, off, rfl, g0⟩ := HC.out 0 (by omega)
  rw [HZ.out 0 (by omega), Nat.add_zero, H0.out] at g0
  have hz0 : (0 : Int) < (Z : Int) := by omega
  go_wp2
  go_loopw [5] (fun i wr => ∃ q : Nat, q ≤ Z ∧ i = .int .i64 q ∧ Hid (∀ v, v < q → lab L v = 0) ∧ Qt w3 wr) (fun i _ => Z - (intOf i).toNat)
  case atStart => exact ⟨0, Nat.zero_le _, rfl, Lib.hid (fun j hj => by omega), Qt.refl _⟩
  case round =>
    obtain ⟨q, hq, rfl, HQ, hqt⟩ := hrel
    by_cases hlt : q < Z
    · obtain ⟨b', off', hbb, g1⟩ := HC.out q hlt
      obtain ⟨rfl, rfl⟩ : b' = b ∧ off' = off := by simp at hbb; exact ⟨hbb.1.symm, hbb.2.symm⟩
      replace g1 := hqt.cell g1
      have g2 := hqt.cell g0
      rw [HZ.out q hlt] at g1
      obtain ⟨x, hx⟩ : ∃ x, x = lab L q := ⟨_, rfl⟩
      rw [← hx] at g1
      have HX := Lib.hid hx
      clear hx hbb
      by_cases hx0 : x = 0
      · have hb : ((x : Int) != ((0 : Nat) : Int)) = false := by simp; exact hx0
        have HN : Hid (∀ v, v < q + 1 → lab L v = 0) := Lib.hid (fun v hv => by
          by_cases e : v < q
          · exact HQ.out v e
          · have e2 : v = q := by omega
            rw [e2, ← HX.out]; exact hx0)
        clear hx0
        go_wp2
        go_quiet (fail)
        go_wp2
        go_roundw
        case rel => exact ⟨q+1, by omega, by go_num, HN, hqt.drewN _⟩
        case measure => simp [intOf]; omega
      · have hb : ((x : Int) != ((0 : Nat) : Int)) = true := by simp; exact hx0
        have HP9 : Hid (P = (false, 0)) := Lib.hid (by
          have hP := HPP.out
          rw [decide_eq_false (fun h => hx0 (by rw [HX.out]; exact h q hlt))] at hP
          exact hP)
        clear hx0
        go_wp2
        go_quiet (fail)
        go_wp2
        refine bodyPost_ret (v := .tuple #[.bool false, .int .i64 0]) (by simp [results, Try.results53, go_sem]) rfl ⟨by rw [HP9.out], (HB.out.qt hqt).drewN _⟩
    · obtain rfl : q = Z := by omega
      have HP9 : Hid (P = (true, 0)) := Lib.hid (by
        have hP := HPP.out
        rw [decide_eq_true HQ.out] at hP
        exact hP)
      go_wp2
      refine bodyPost_ret (v := .tuple #[.bool true, .int .i64 0]) (by simp [results, Try.results53, go_sem]) rfl ⟨by rw [HP9.out], HB.out.qt hqt⟩

end Go.Proofs.Ytlahfglblgppgaa
