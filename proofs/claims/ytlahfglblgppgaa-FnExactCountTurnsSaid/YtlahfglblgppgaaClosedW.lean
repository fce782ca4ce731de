/- Closed walks of a cover's base, by the program. -/
import Derived.Test.YtlahfglblgppgaaClosed
import Derived.Test.YtlahfglblgppgaaProjV
set_option linter.unusedSimpArgs false
set_option linter.unusedVariables false
set_option maxRecDepth 100000
namespace Go.Proofs.Ytlahfglblgppgaa
open Go.RowKit

def prevI (L j : Nat) : Nat := if j = 0 then L - 1 else j - 1
theorem prevI_next {L j : Nat} (h : j < L) : (prevI L j + 1) % L = j := by
  unfold prevI
  split
  · rename_i e; subst e; rw [show L - 1 + 1 = L by omega, Nat.mod_self]
  · rw [show j - 1 + 1 = j by omega, Nat.mod_eq_of_lt h]
theorem prevI_lt {L j : Nat} (h : j < L) : prevI L j < L := by unfold prevI; split <;> omega
theorem linkB_prev {ds : List (Int × Int)} {ws : List Int} {j : Nat} (h : j < ws.length) : linkB ds ws (prevI ws.length j) = ((ds.getD (ws.getD j 0).toNat (0, 0)).1 == (ds.getD (ws.getD (prevI ws.length j) 0).toNat (0, 0)).2) := by
  unfold linkB nextW
  rw [prevI_next h]
theorem closedB_prev {ds : List (Int × Int)} {ws : List Int} (h0 : 0 < ws.length) (h : ∀ j, j < ws.length → linkB ds ws (prevI ws.length j) = true) : closedB ds ws = true := by
  rw [closedB_end (fun i hi => by
    have h1 := h ((i + 1) % ws.length) (Nat.mod_lt _ h0)
    have e : prevI ws.length ((i + 1) % ws.length) = i := by
      by_cases e : i + 1 = ws.length
      · rw [e, Nat.mod_self]; unfold prevI; rw [if_pos rfl]; omega
      · rw [Nat.mod_eq_of_lt (by omega)]; unfold prevI; rw [if_neg (by omega)]; omega
    rwa [e] at h1)]
  simpa using h0

set_option maxHeartbeats 3200000 in
theorem isClosedWalk {lo hi lo1 hi1 : Nat} (s : Int) (a : Option Addr) (n c : Nat) (xss : List (List Int)) (a1 : Option Addr) (n1 c1 : Nat) (ws : List Int) (w : World) (h : RdR lo hi w (.slice a n c) xss) (hn : xss.length = n) (hg : grB s xss = true) (h1 : RdI lo1 hi1 w (.slice a1 n1 c1) ws) (hl : ws.length = n1) (hw : walkB n ws = true) (h0 : 0 < n1) :
    Calls Try.prog 71 #[.agg #[.int .i64 s, .slice a n c], .slice a1 n1 c1] w fun e w' => e = .returned (.bool (closedB (dirE (pairs xss)) ws)) ∧ Below w.heap.size w w' := by
  have hb0 : ∀ o, Below w.heap.size w (w.alloc o) := fun o => (Below.refl _ _).alloc (Nat.le_refl _) o
  have HL := Lib.hid hl
  have HC := Lib.hid (h1.at hl)
  obtain ⟨hw20, hwin⟩ := walkB_of hw
  have HIN : Hid (∀ j, j < n1 → ∃ X : Nat, ws.getD j 0 = (X : Int) ∧ X < 2 * n) := Lib.hid (fun j hj => by
    have := hwin j (by omega)
    unfold inR at this
    simp at this
    refine ⟨(ws.getD j 0).toNat, ?_, ?_⟩ <;> simp only [List.getD] <;> omega)
  have hn20 : n1 ≤ 20 := by omega
  have hn10 : n ≤ 10 := by have := grB_iff hg; omega
  have HR := Lib.hid h
  have HG := Lib.hid hg
  have HN := Lib.hid hn
  have hdl : (dirE (pairs xss)).length = 2 * n := by rw [dirE_len, pairs_len, hn]
  obtain ⟨ds, hds⟩ : ∃ ds, ds = dirE (pairs xss) := ⟨_, rfl⟩
  rw [← hds] at hdl ⊢
  have HDS := Lib.hid hds
  have HDL := Lib.hid hdl
  clear h h1 hw hwin hl hg hn hdl hds
  go_enter Try.func71, Try.ntmps71
  go_wp2_with fail
  refine calls_gen (fun W => Below w.heap.size w W) (hb0 _) ?_
  intro W hB
  refine (directedOf s a n c xss W (HR.out.below hB) HN.out HG.out).mono ?_
  rintro e w1 ⟨ad, cd, rfl, hE, b1⟩
  replace hB := hB.next b1
  clear b1
  rw [← HDS.out] at hE
  have HE := Lib.hid hE
  clear hE
  have hwr : IntKind.i64.wrap ((n1 : Int) - 1) = ((n1 - 1 : Nat) : Int) := by rw [show ((n1 : Int) - 1) = ((n1 - 1 : Nat) : Int) by omega]; exact IntWalk.i64_in _ (by omega)
  obtain ⟨b, off, rfl, g0⟩ := HC.out (n1 - 1) (by omega)
  replace g0 := hB.keep g0
  obtain ⟨X0, hX0, hX0n⟩ := HIN.out (n1 - 1) (by omega)
  rw [hX0] at g0
  have HX0 := Lib.hid hX0
  clear hX0
  have hlast : n1 - 1 < n1 := by omega
  have hsub : (n1 : Int) - 1 = ((n1 - 1 : Nat) : Int) := by omega
  go_wp2
  obtain ⟨N2, hN2⟩ : ∃ N2, N2 = 2 * n := ⟨_, rfl⟩
  rw [← hN2] at HIN HDL hX0n ⊢
  have hN20 : N2 ≤ 20 := by omega
  clear hN2 hsub
  go_loopw [6, 8, 19] (fun bf _ i wr => ∃ k X : Nat, k ≤ n1 ∧ i = .int .i64 k ∧ bf = .int .i64 X ∧ X < N2 ∧ Hid (ws.getD (prevI n1 k) 0 = (X : Int)) ∧ Hid (∀ j, j < k → linkB ds ws (prevI n1 j) = true) ∧ Below w1.heap.size w1 wr) (fun _ _ i _ => n1 - (intOf i).toNat)
  case atStart => exact ⟨0, X0, Nat.zero_le _, rfl, rfl, hX0n, Lib.hid (by unfold prevI; rw [if_pos rfl]; exact HX0.out), Lib.hid (fun j hj => by omega), Below.refl _ _⟩
  case round =>
    obtain ⟨k, X, hk, rfl, rfl, hX, HXe, HLK, hw1⟩ := hrel
    replace hB := hB.next hw1
    by_cases hlt : k < n1
    · obtain ⟨b', off', hbb, g1⟩ := HC.out k hlt
      obtain ⟨rfl, rfl⟩ : b' = b ∧ off' = off := by simp at hbb; exact ⟨hbb.1.symm, hbb.2.symm⟩
      replace g1 := hB.keep g1
      obtain ⟨Y, hY, hYn⟩ := HIN.out k hlt
      rw [hY] at g1
      obtain ⟨bd, rfl, _, e0, e1⟩ := HE.out X (by rw [HDL.out]; exact hX)
      obtain ⟨bd', hbd, _, e2, e3⟩ := HE.out Y (by rw [HDL.out]; exact hYn)
      obtain rfl : bd' = bd := by simp at hbd; exact hbd.symm
      replace e1 := hw1.keep e1
      replace e2 := hw1.keep e2
      have hlk : linkB ds ws (prevI n1 k) = ((ds.getD Y (0, 0)).1 == (ds.getD X (0, 0)).2) := by
        have := linkB_prev (ds := ds) (ws := ws) (j := k) (by rw [HL.out]; exact hlt)
        rw [HL.out] at this
        rw [this, hY, HXe.out, Int.toNat_natCast, Int.toNat_natCast]
      have HLQ := Lib.hid hlk
      have HYe := Lib.hid hY
      generalize (ds.getD Y (0, 0)).1 = y at *
      generalize (ds.getD X (0, 0)).2 = x at *
      clear e0 e3 hbd hbb hlk hY
      by_cases hxy : x = y
      · have hb : (x != y) = false := by simpa using hxy
        have hall : Hid (∀ j, j < k + 1 → linkB ds ws (prevI n1 j) = true) := Lib.hid (fun j hj => by
          by_cases e : j < k
          · exact HLK.out j e
          · obtain rfl : j = k := by omega
            rw [HLQ.out, hxy]; simp)
        clear hxy
        go_wp2
        go_quiet (fail)
        go_wp2
        go_roundw
        case rel => exact ⟨k+1, Y, by omega, by go_num, rfl, hYn, Lib.hid (by unfold prevI; rw [if_neg (by omega), Nat.add_sub_cancel]; exact HYe.out), hall, hw1.drewN _⟩
        case measure => simp [intOf]; omega
      · have hb : (x != y) = true := by simpa using hxy
        have HBD := Lib.hid (show closedB ds ws = false from closedB_bad (i := prevI n1 k) (by rw [HL.out]; exact prevI_lt hlt) (by rw [HLQ.out]; simp; exact fun e => hxy e.symm))
        clear hxy
        go_wp2
        go_quiet (fail)
        go_wp2
        go_ret
        exact ⟨by rw [HBD.out]; rfl, hB.drewN _⟩
    · obtain rfl : k = n1 := by omega
      have HOK := Lib.hid (closedB_prev (ds := ds) (ws := ws) (by rw [HL.out]; exact h0) (fun j hj => by rw [HL.out]; exact HLK.out j (by rw [← HL.out]; exact hj)))
      go_wp2
      go_ret
      exact ⟨by rw [HOK.out]; rfl, hB⟩

def pwCode (s : Int) (xss : List (List Int)) (sh : Int) (ts : List (List Int)) (ws : List Int) : Int :=
  if cvB s xss sh ts then (if decide (0 < ws.length) && walkB xss.length ws then (if closedB (dirE (pairs xss)) ws then 0 else 5) else 2) else 1

end Go.Proofs.Ytlahfglblgppgaa
