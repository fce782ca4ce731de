/- GirthOf, both sides. -/
import Derived.Test.YtgcidkcedfliiaaGirth
set_option linter.unusedSimpArgs false
set_option linter.unusedVariables false
namespace Go.Proofs.Ytgcidkcedfliiaa
open Go.RowKit

/-- the first of the m numbers from k on with c above zero, and 0; else 0 and 4 -/
def gk (c : Nat → Int) : Nat → Nat → Int × Int
  | 0, _ => (0, 4)
  | m + 1, k => if 0 < c k then ((k : Int), 0) else gk c m (k + 1)
theorem gk_none {c : Nat → Int} (m : Nat) : ∀ k, (∀ q, k ≤ q → q < k + m → ¬ 0 < c q) → gk c m k = (0, 4) := by
  induction m with
  | zero => intro k _; rfl
  | succ m ih =>
    intro k h
    simp only [gk]
    rw [if_neg (h k (Nat.le_refl _) (by omega))]
    exact ih (k + 1) (fun q h1 h2 => h q (by omega) (by omega))
theorem gk_more {c : Nat → Int} (j m : Nat) : ∀ k, (∃ q, k ≤ q ∧ q < k + m ∧ 0 < c q) → gk c (m + j) k = gk c m k := by
  induction m with
  | zero => rintro k ⟨q, h1, h2, _⟩; omega
  | succ m ih =>
    rintro k ⟨q, h1, h2, h3⟩
    rw [show m + 1 + j = m + j + 1 by omega]
    simp only [gk]
    by_cases hk : 0 < c k
    · rw [if_pos hk, if_pos hk]
    · rw [if_neg hk, if_neg hk]
      have : q ≠ k := fun e => hk (e ▸ h3)
      exact ih (k + 1) ⟨q, by omega, by omega, h3⟩
def girOf (s : Int) (xss : List (List Int)) : Int × Int := if grB s xss = true then gk (clN (2 * xss.length) (edgeM (dirE (pairs xss)))) 8 1 else (0, 1)
/-- to look up to the number of vertices is enough -/
theorem gk_size {S : Nat} {xss : List (List Int)} (hg : grB (S : Int) xss = true) : gk (clN (2 * xss.length) (edgeM (dirE (pairs xss)))) 8 1 = gk (clN (2 * xss.length) (edgeM (dirE (pairs xss)))) S 1 := by
  have hg4 := grB_iff hg
  by_cases hx : ∃ q, 1 ≤ q ∧ q < 1 + S ∧ 0 < clN (2 * xss.length) (edgeM (dirE (pairs xss))) q
  · have := gk_more (8 - S) S 1 hx
    rw [show S + (8 - S) = 8 by omega] at this
    exact this
  · have h0 := clN_graph hg (fun q h1 h2 h3 => hx ⟨q, h1, by omega, by omega⟩)
    rw [gk_none 8 1 (fun q h1 h2 => by rw [h0 q h1]; omega), gk_none S 1 (fun q h1 h2 => by rw [h0 q h1]; omega)]

set_option maxRecDepth 100000 in
set_option maxHeartbeats 1600000 in
theorem specGir {lo hi : Nat} (s : Int) (a : Option Addr) (n c : Nat) (xss : List (List Int)) (w : World) (h : RdR lo hi w (.slice a n c) xss) (hn : xss.length = n) :
    Calls Try.prog 50 #[.agg #[.int .i64 s, .slice a n c]] w fun e w' => e = .returned (.tuple #[.int .i64 (girOf s xss).1, .int .i64 (girOf s xss).2]) ∧ Below w.heap.size w w' := by
  have HR := Lib.hid h
  have HI := Lib.hid (fun W' (h' : RdR lo hi W' (.slice a n c) xss) => l01Is s a n c xss W' h' hn)
  have HS := Lib.hid (fun W' (h' : RdR lo hi W' (.slice a n c) xss) hg (k : Nat) h1 h2 => l03Count s a n c xss k W' h' hn hg h1 h2)
  obtain ⟨P, hP⟩ : ∃ P, P = girOf s xss := ⟨_, rfl⟩
  rw [← hP]
  unfold girOf at hP
  rw [hn] at hP
  have HP := Lib.hid hP
  clear h hn hP
  go_enter Try.func50, Try.ntmps50
  go_wp2_with fail
  refine calls_gen (fun W => Below w.heap.size w W ∧ W.cell? ⟨w.heap.size, 0, none⟩ = some (.int .i64 s) ∧ W.cell? ⟨w.heap.size, 1, none⟩ = some (.slice a n c)) ⟨(Below.refl _ _).alloc (Nat.le_refl _) _, by go_simp, by go_simp⟩ ?_
  rintro W ⟨hB, k0, k1⟩
  refine (HI.out W (HR.out.below hB)).mono ?_
  cases hg : grB s xss with
  | false =>
    rintro e w1 ⟨rfl, b1⟩
    replace hB := hB.next b1
    have hP := HP.out
    rw [hg, if_neg (by simp)] at hP
    clear k0 k1 b1 HP hg
    subst hP
    go_wp2
    refine bodyPost_ret (v := .tuple #[.int .i64 0, .int .i64 1]) (by simp [results, Try.results50, go_sem]) rfl ⟨rfl, hB⟩
  | true =>
    have HG := Lib.hid hg
    have hP := HP.out
    rw [hg, if_pos rfl] at hP
    clear hg HP
    rintro e w1 ⟨rfl, b1⟩
    replace hB := hB.next b1
    replace k0 := b1.keep k0
    replace k1 := b1.keep k1
    have HSC := Lib.hid (fun W' (h' : RdR lo hi W' (.slice a n c) xss) (k : Nat) h1 h2 => HS.out W' h' HG.out k h1 h2)
    generalize clN (2 * n) (edgeM (dirE (pairs xss))) = cc at hP HSC
    have HP0 := Lib.hid (⟨hP.symm, hB, k0, k1⟩ : gk cc 8 1 = P ∧ _ ∧ _ ∧ _)
    clear hP hB k0 k1 b1 HS HG
    go_wp2
    go_loopw [4] (fun y wr => ∃ k m : Nat, 1 ≤ k ∧ k + m = 9 ∧ y = .int .i64 k ∧ gk cc m k = P ∧ Below w.heap.size w wr ∧ wr.cell? ⟨w.heap.size, 0, none⟩ = some (.int .i64 s) ∧ wr.cell? ⟨w.heap.size, 1, none⟩ = some (.slice a n c)) (fun y _ => 9 - (intOf y).toNat)
    case atStart => exact ⟨1, 8, Nat.le_refl _, rfl, rfl, HP0.out⟩
    case round =>
      clear HP0
      obtain ⟨k, m, hk1, hkm, rfl, hgk, hB, k0, k1⟩ := hrel
      cases m with
      | zero =>
        obtain rfl : k = 9 := by omega
        have hgk' : (0, 4) = P := hgk
        subst hgk'
        clear k0 k1 hgk
        go_wp2
        refine bodyPost_ret (v := .tuple #[.int .i64 0, .int .i64 4]) (by simp [results, Try.results50, go_sem]) rfl ⟨rfl, hB⟩
      | succ m =>
        have hk8 : k ≤ 8 := by omega
        have hS := HSC.out wr (HR.out.below hB) k hk1 (by omega)
        simp only [gk] at hgk
        generalize cc k = v at hS hgk
        have HKM := Lib.hid hkm
        have HB := Lib.hid (⟨hB, k0, k1⟩ : _ ∧ _ ∧ _)
        have HGK := Lib.hid hgk
        clear hkm hB hgk
        go_wp2_with fail
        refine hS.mono ?_
        clear hS k0 k1
        rintro e w2 ⟨rfl, b2⟩
        obtain ⟨hB, k0, k1⟩ := HB.out
        replace hB := hB.next b2
        replace k0 := b2.keep k0
        replace k1 := b2.keep k1
        have hgk := HGK.out
        by_cases hv : 0 < v
        · rw [if_pos hv] at hgk
          subst hgk
          clear b2 k0 k1 HKM
          go_wp2
          refine bodyPost_ret (v := .tuple #[.int .i64 (k : Int), .int .i64 0]) (by simp [results, Try.results50, go_sem]) rfl ⟨rfl, hB⟩
        · rw [if_neg hv] at hgk
          have HF := Lib.hid (⟨hgk, hB, k0, k1⟩ : _ ∧ _ ∧ _ ∧ _)
          have hv0 : v ≤ 0 := by omega
          clear b2 k0 k1 hB hgk HB HGK
          go_wp2
          go_roundw
          case rel => exact ⟨k+1, m, by omega, by have := HKM.out; omega, by go_num, HF.out⟩
          case measure => simp [intOf]; omega

set_option maxRecDepth 100000 in
set_option maxHeartbeats 1600000 in
theorem implGir {lo hi : Nat} (s : Int) (a : Option Addr) (n c : Nat) (xss : List (List Int)) (w : World) (h : RdR lo hi w (.slice a n c) xss) (hn : xss.length = n) :
    Calls Try.prog 51 #[.agg #[.int .i64 s, .slice a n c]] w fun e w' => e = .returned (.tuple #[.int .i64 (girOf s xss).1, .int .i64 (girOf s xss).2]) ∧ Below w.heap.size w w' := by
  have HR := Lib.hid h
  have HI := Lib.hid (fun W' (h' : RdR lo hi W' (.slice a n c) xss) => implIsGraph s a n c xss W' h' hn)
  have HS := Lib.hid (fun W' (h' : RdR lo hi W' (.slice a n c) xss) hg (k : Nat) h1 => closedNumbers s a n c xss k W' h' hn hg h1)
  have HN10 := Lib.hid (fun hg : grB s xss = true => show 2 * n ≤ 20 ∧ s ≤ 8 ∧ 1 ≤ s by have := grB_iff hg; omega)
  have HSZ := Lib.hid (fun (S : Nat) (e : s = (S : Int)) (hg : grB s xss = true) => gk_size (S := S) (by rw [← e]; exact hg))
  have HN := Lib.hid hn
  obtain ⟨P, hP⟩ : ∃ P, P = girOf s xss := ⟨_, rfl⟩
  rw [← hP]
  unfold girOf at hP
  have HP := Lib.hid hP
  clear h hn hP
  go_enter Try.func51, Try.ntmps51
  go_wp2_with fail
  refine calls_gen (fun W => Below w.heap.size w W ∧ W.cell? ⟨w.heap.size, 0, none⟩ = some (.int .i64 s) ∧ W.cell? ⟨w.heap.size, 1, none⟩ = some (.slice a n c)) ⟨(Below.refl _ _).alloc (Nat.le_refl _) _, by go_simp, by go_simp⟩ ?_
  rintro W ⟨hB, k0, k1⟩
  refine (HI.out W (HR.out.below hB)).mono ?_
  cases hg : grB s xss with
  | false =>
    rintro e w1 ⟨rfl, b1⟩
    replace hB := hB.next b1
    have hP := HP.out
    rw [hg, if_neg (by simp)] at hP
    clear k0 k1 b1 HP hg
    subst hP
    go_wp2
    refine bodyPost_ret (v := .tuple #[.int .i64 0, .int .i64 1]) (by simp [results, Try.results51, go_sem]) rfl ⟨rfl, hB⟩
  | true =>
    obtain ⟨hn20, hs8, hs1⟩ := HN10.out hg
    obtain ⟨S, hS⟩ : ∃ S : Nat, s = (S : Int) := ⟨s.toNat, by omega⟩
    have hP := HP.out
    rw [hg, if_pos rfl, HSZ.out S hS hg, HN.out] at hP
    have hgm : ∀ j, j < S → (cls (2 * n) (edgeM (dirE (pairs xss))) S).getD j 0 = clN (2 * n) (edgeM (dirE (pairs xss))) (j + 1) := fun j hj => by
      rw [cls_get _ _ hj, clN_trW hn20 (edgeM_01 _) (by omega)]
    have hlen := cls_len (2 * n) (edgeM (dirE (pairs xss))) S
    have HCN := Lib.hid (fun W' (h' : RdR lo hi W' (.slice a n c) xss) => HS.out W' h' hg S (by omega))
    generalize clN (2 * n) (edgeM (dirE (pairs xss))) = cc at hP hgm
    generalize cls (2 * n) (edgeM (dirE (pairs xss))) S = cs at HCN hgm hlen
    have HGL := Lib.hid (⟨hgm, hlen⟩ : _ ∧ _)
    have HP0 := Lib.hid hP.symm
    have hS8 : S ≤ 8 := by omega
    subst hS
    clear hP hgm hlen HSZ HS HP HN10 hg hn20 hs8 hs1 HI
    rintro e w1 ⟨rfl, b1⟩
    replace hB := hB.next b1
    replace k0 := b1.keep k0
    replace k1 := b1.keep k1
    have hCN := HCN.out w1 (HR.out.below hB)
    clear b1 HCN
    go_wp2_with fail
    refine hCN.mono ?_
    clear hCN
    rintro e w2 ⟨a', c', rfl, o2, b2⟩
    have HF0 := Lib.hid (⟨o2.rd, hB.next b2⟩ : _ ∧ _)
    have HCE := Lib.hid (fun W' (h' : RdI w1.heap.size w2.heap.size W' (.slice a' S c') cs) => h'.at' HGL.out.2)
    clear o2 hB b2 k0 k1
    go_wp2
    go_loopw [14] (fun y wr => ∃ k m : Nat, k + m = S ∧ y = .int .i64 k ∧ gk cc m (k + 1) = P ∧ RdI w1.heap.size w2.heap.size wr (.slice a' S c') cs ∧ Below w.heap.size w wr) (fun y _ => S - (intOf y).toNat)
    case atStart => exact ⟨0, S, by omega, rfl, HP0.out, HF0.out⟩
    case round =>
      clear HP0 HF0
      obtain ⟨k, m, hkm, rfl, hgk, hO, hB⟩ := hrel
      cases m with
      | zero =>
        obtain rfl : k = S := by omega
        have hgk' : (0, 4) = P := hgk
        subst hgk'
        clear hgk hO
        go_wp2
        refine bodyPost_ret (v := .tuple #[.int .i64 0, .int .i64 4]) (by simp [results, Try.results51, go_sem]) rfl ⟨rfl, hB⟩
      | succ m =>
        have hks : k < S := by omega
        obtain ⟨b, off, hab, g0⟩ := HCE.out wr hO k hks
        rw [HGL.out.1 k hks] at g0
        simp only [gk] at hgk
        generalize cc (k + 1) = v at g0 hgk
        subst hab
        have hi0 : (0 : Int) ≤ (k : Int) := by omega
        have hi1 : (k : Int) < (S : Int) := by omega
        have HKM := Lib.hid hkm
        by_cases hv : 0 < v
        · rw [if_pos hv] at hgk
          subst hgk
          have HB := Lib.hid hB
          clear hkm hO hB
          go_wp2
          refine bodyPost_ret (v := .tuple #[.int .i64 (((k + 1 : Nat)) : Int), .int .i64 0]) ?_ rfl ⟨rfl, HB.out⟩
          simp [results, Try.results51, go_sem]
        · rw [if_neg hv] at hgk
          have HF := Lib.hid (⟨hgk, hO, hB⟩ : _ ∧ _ ∧ _)
          have hv0 : v ≤ 0 := by omega
          clear hkm hO hB hgk
          go_wp2
          go_roundw
          case rel => exact ⟨k+1, m, by have := HKM.out; omega, by go_num, HF.out⟩
          case measure => simp [intOf]; omega

end Go.Proofs.Ytgcidkcedfliiaa
