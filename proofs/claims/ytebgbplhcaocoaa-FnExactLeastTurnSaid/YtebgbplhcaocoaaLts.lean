/- LeastTurn, both sides. -/
import Derived.Test.YtebgbplhcaocoaaLtn
import Derived.Test.YtebgbplhcaocoaaTurn
set_option linter.unusedSimpArgs false
set_option linter.unusedVariables false
set_option maxRecDepth 100000
namespace Go.Proofs.Ytebgbplhcaocoaa
open Go.RowKit

set_option maxHeartbeats 3200000 in
theorem implLt {lo hi lo1 hi1 : Nat} (s : Int) (a : Option Addr) (n c : Nat) (xss : List (List Int)) (a1 : Option Addr) (n1 c1 : Nat) (ws : List Int) (w : World) (h : RdR lo hi w (.slice a n c) xss) (hn : xss.length = n) (h1 : RdI lo1 hi1 w (.slice a1 n1 c1) ws) (hl : ws.length = n1) (hcap : n1 ≤ c1) :
    Calls Try.prog 54 #[.agg #[.int .i64 s, .slice a n c], .slice a1 n1 c1] w fun e w' => ∃ a' c', e = .returned (.tuple #[.slice a' (ltOf s xss ws).1.length c', .int .i64 (ltOf s xss ws).2]) ∧ OwI w.heap.size w'.heap.size w' (.slice a' (ltOf s xss ws).1.length c') (ltOf s xss ws).1 ∧ Below w.heap.size w w' := by
  have hb0 : ∀ o, Below w.heap.size w (w.alloc o) := fun o => (Below.refl _ _).alloc (Nat.le_refl _) o
  by_cases hw : wcode s xss ws = 0
  · obtain ⟨hg, hwk⟩ := wcode_ok hw
    obtain ⟨hz1, hz2, _, _⟩ := wkB_iff.1 hwk
    rw [hl] at hz1
    cases hcl : clB (dirE (pairs xss)) ws with
    | true =>
      obtain ⟨b1, o1, rfl, _⟩ := h1.at hl 0 (by omega)
      rw [ltOf_yes hw hcl]
      refine (callsIn_wide.1 (leastIn s a n c xss b1 o1 n1 c1 ws w h hn h1 hl hcap hw hcl)).mono ?_
      rintro e w' ⟨a', c', rfl, o, b⟩
      have hlen : (ltK ws (ws.length - 1)).length = n1 := by rw [ltK_len, hl]
      refine ⟨a', c', ?_, ?_, b⟩
      · show _ = Ending.returned (.tuple #[.slice a' (ltK ws (ws.length - 1)).length c', .int .i64 0])
        rw [hlen]
      · show OwI _ _ _ (.slice a' (ltK ws (ws.length - 1)).length c') (ltK ws (ws.length - 1))
        rw [hlen, hl]; exact o
    | false =>
      have HCW := Lib.hid (fun W (hB : Below w.heap.size w W) => checkWalk s a n c xss a1 n1 c1 ws W (h.below hB) hn (h1.below hB) hl hcap)
      have HCL := Lib.hid (fun W (hB : Below w.heap.size w W) => isClosed s a n c xss a1 n1 c1 ws W (h.below hB) hn hg (h1.below hB) hl hcap hwk)
      rw [hw] at HCW
      rw [hcl] at HCL
      rw [ltOf_open hw hcl]
      clear h hn h1 hl hcap hw hg hwk hcl hz1 hz2
      go_enter Try.func54, Try.ntmps54
      go_wp2_with fail
      refine calls_gen (fun W => Below w.heap.size w W ∧ W.cell? ⟨w.heap.size, 0, none⟩ = some (.int .i64 s) ∧ W.cell? ⟨w.heap.size, 1, none⟩ = some (.slice a n c)) ⟨hb0 _, by go_simp, by go_simp⟩ ?_
      rintro W ⟨hB, k0, k1⟩
      refine (HCW.out W hB).mono ?_
      rintro e w1 ⟨rfl, b1⟩
      replace hB := hB.next b1
      replace k0 := b1.keep k0
      replace k1 := b1.keep k1
      clear b1 HCW
      go_wp2_with fail
      refine (HCL.out w1 hB).mono ?_
      rintro e w2 ⟨rfl, b2⟩
      replace hB := hB.next b2
      clear b2 HCL k0 k1
      go_wp2
      go_ret2
      exact ⟨none, 0, rfl, OwI.nil' _ _ _, hB⟩
  · have HCW := Lib.hid (fun W (hB : Below w.heap.size w W) => checkWalk s a n c xss a1 n1 c1 ws W (h.below hB) hn (h1.below hB) hl hcap)
    rw [ltOf_code hw]
    generalize wcode s xss ws = code at HCW hw ⊢
    have hcb : (code != 0) = true := by simpa using hw
    clear h hn h1 hl hcap hw
    go_enter Try.func54, Try.ntmps54
    go_wp2_with fail
    refine calls_gen (fun W => Below w.heap.size w W) (hb0 _) ?_
    rintro W hB
    refine (HCW.out W hB).mono ?_
    rintro e w1 ⟨rfl, b1⟩
    replace hB := hB.next b1
    clear b1 HCW
    go_wp2
    go_ret2
    exact ⟨none, 0, rfl, OwI.nil' _ _ _, hB⟩

set_option maxHeartbeats 3200000 in
theorem l03Least {lo1 hi1 : Nat} (b1 o1 n1 c1 : Nat) (ws : List Int) (w : World) (h1 : RdI lo1 hi1 w (.slice (some ⟨b1, o1, none⟩) n1 c1) ws) (hl : ws.length = n1) (hcap : n1 ≤ c1) (hz1 : 1 ≤ n1) (hz2 : n1 ≤ 12) :
    Calls Try.prog 113 #[.slice (some ⟨b1, o1, none⟩) n1 c1] w fun e w' => ∃ a' c', e = .returned (.slice a' n1 c') ∧ OwI w.heap.size w'.heap.size w' (.slice a' n1 c') (ltK ws (n1 - 1)) ∧ Below w.heap.size w w' := by
  have HOWN := Lib.hid (l01Own _ ws w h1)
  have HT := Lib.hid (fun k (h0 : 0 < k) (hk : k < n1) W (hB : Below w.heap.size w W) => l03Turn b1 o1 n1 c1 ws k W (h1.below hB) hl hcap h0 hk (by omega))
  have HBF := Lib.hid (fun (a a' : Option Addr) (c c' lo hi lo' hi' : Nat) (xs ys : List Int) W (h : RdI lo hi W (.slice a n1 c) xs) (h' : RdI lo' hi' W (.slice a' n1 c') ys) hx hy => l03Before a n1 c xs a' c' ys W h hx h' hy (by omega))
  have HL := Lib.hid hl
  rw [hl] at HOWN
  clear h1 hl hcap
  go_enter Try.func113, Try.ntmps113
  go_wp2_with fail
  refine HOWN.out.mono ?_
  rintro e w1 ⟨va, vc, rfl, o1', b1'⟩
  have HI0 := Lib.hid (⟨o1', b1'⟩ : OwI w.heap.size w1.heap.size w1 (.slice va n1 vc) (ltK ws 0) ∧ Below w.heap.size w w1)
  clear o1' b1' HOWN
  go_wp2
  go_loopw [4, 3] (fun i v wr => ∃ (k : Nat) (a : Option Addr) (c : Nat), k + 1 ≤ n1 ∧ i = .int .i64 ((k + 1 : Nat) : Int) ∧ v = .slice a n1 c ∧ OwI w.heap.size wr.heap.size wr (.slice a n1 c) (ltK ws k) ∧ Below w.heap.size w wr) (fun i _ _ => n1 - (intOf i).toNat)
  case atStart => exact ⟨0, va, vc, hz1, rfl, rfl, HI0.out⟩
  case round =>
    clear HI0
    obtain ⟨k, va, vc, hk, rfl, rfl, hO, hB⟩ := hrel
    obtain ⟨K, hK⟩ : ∃ K, K = k + 1 := ⟨_, rfl⟩
    rw [← hK]
    have HKK := Lib.hid hK
    by_cases hlt : K < n1
    · have hKn : (K : Int) < (n1 : Int) := by omega
      have HTW := Lib.hid (HT.out K (by omega) hlt wr hB)
      have HH := Lib.hid (⟨hO, hB⟩ : _ ∧ _)
      clear hO hB hK
      go_wp2_with fail
      refine HTW.out.mono ?_
      rintro e w2 ⟨ta, tc, rfl, o2, b2⟩
      have hl1 : (turnL ws K).length = n1 := by rw [turnL_len, HL.out]
      have hl2 : (ltK ws k).length = n1 := by rw [ltK_len, HL.out]
      have HB2 := Lib.hid (HBF.out ta va tc vc _ _ _ _ (turnL ws K) (ltK ws k) w2 o2.rd (HH.out.1.below b2).rd hl1 hl2)
      have hst : ltK ws K = if bef (turnL ws K) (ltK ws k) n1 0 = true then turnL ws K else ltK ws k := by rw [HKK.out, ← HL.out]; rfl
      have HF1 := Lib.hid (⟨o2, (HH.out.1.below b2), HH.out.2.next b2, HH.out.2.size, b2.size⟩ : _ ∧ _ ∧ _ ∧ _ ∧ _)
      cases hb : bef (turnL ws K) (ltK ws k) n1 0 with
      | true =>
        rw [hb, if_pos rfl] at hst
        rw [hb] at HB2
        have HST := Lib.hid hst
        clear hst hb o2 b2 HH HTW hl1 hl2
        go_wp2_with fail
        refine HB2.out.mono ?_
        rintro e w3 ⟨rfl, q3⟩
        have HF := Lib.hid (show OwI w.heap.size w3.heap.size w3 (.slice ta n1 tc) (ltK ws K) ∧ Below w.heap.size w w3 by
          rw [HST.out]
          exact ⟨(HF1.out.1.qt q3).mono HF1.out.2.2.2.1 (by have := q3.below.size; omega), HF1.out.2.2.1.qt q3⟩)
        clear q3 HF1 HB2
        go_wp2
        go_roundw
        case rel => exact ⟨K, ta, tc, by omega, by go_num, rfl, HF.out⟩
        case measure => simp [intOf]; omega
      | false =>
        rw [hb, if_neg (by simp)] at hst
        rw [hb] at HB2
        have HST := Lib.hid hst
        clear hst hb o2 b2 HH HTW hl1 hl2
        go_wp2_with fail
        refine HB2.out.mono ?_
        rintro e w3 ⟨rfl, q3⟩
        have HF := Lib.hid (show OwI w.heap.size w3.heap.size w3 (.slice va n1 vc) (ltK ws K) ∧ Below w.heap.size w w3 by
          rw [HST.out]
          exact ⟨(HF1.out.2.1.qt q3).mono (Nat.le_refl _) (by have := q3.below.size; have := HF1.out.2.2.2.2; omega), HF1.out.2.2.1.qt q3⟩)
        clear q3 HF1 HB2
        go_wp2
        go_roundw
        case rel => exact ⟨K, va, vc, by omega, by go_num, rfl, HF.out⟩
        case measure => simp [intOf]; omega
    · obtain rfl : n1 = k + 1 := by omega
      have HF := Lib.hid (⟨hO, hB⟩ : _ ∧ _)
      clear hO hB
      go_wp2
      go_ret
      exact ⟨va, vc, rfl, HF.out⟩

set_option maxHeartbeats 3200000 in
theorem specLt {lo hi lo1 hi1 : Nat} (s : Int) (a : Option Addr) (n c : Nat) (xss : List (List Int)) (a1 : Option Addr) (n1 c1 : Nat) (ws : List Int) (w : World) (h : RdR lo hi w (.slice a n c) xss) (hn : xss.length = n) (h1 : RdI lo1 hi1 w (.slice a1 n1 c1) ws) (hl : ws.length = n1) (hcap : n1 ≤ c1) :
    Calls Try.prog 53 #[.agg #[.int .i64 s, .slice a n c], .slice a1 n1 c1] w fun e w' => ∃ a' c', e = .returned (.tuple #[.slice a' (ltOf s xss ws).1.length c', .int .i64 (ltOf s xss ws).2]) ∧ OwI w.heap.size w'.heap.size w' (.slice a' (ltOf s xss ws).1.length c') (ltOf s xss ws).1 ∧ Below w.heap.size w w' := by
  have hb0 : ∀ o, Below w.heap.size w (w.alloc o) := fun o => (Below.refl _ _).alloc (Nat.le_refl _) o
  have HCO := Lib.hid (fun W (hB : Below w.heap.size w W) => l03Code s a n c xss a1 n1 c1 ws W (h.below hB) hn (h1.below hB) hl)
  by_cases hw : wcode s xss ws = 0
  · obtain ⟨hg, hwk⟩ := wcode_ok hw
    obtain ⟨hz1, hz2, _, _⟩ := wkB_iff.1 hwk
    rw [hl] at hz1 hz2
    obtain ⟨b1, o1, rfl, _⟩ := h1.at hl 0 (by omega)
    have HCL := Lib.hid (fun W (hB : Below w.heap.size w W) => l03Closed s a n c xss (some ⟨b1, o1, none⟩) n1 c1 ws W (h.below hB) hn hg (h1.below hB) hl hwk)
    have HLE := Lib.hid (fun W (hB : Below w.heap.size w W) => l03Least b1 o1 n1 c1 ws W (h1.below hB) hl hcap hz1 hz2)
    rw [hw] at HCO
    cases hcl : clB (dirE (pairs xss)) ws with
    | true =>
      rw [hcl] at HCL
      rw [ltOf_yes hw hcl]
      have hlen : (ltK ws (n1 - 1)).length = n1 := by rw [ltK_len, hl]
      rw [hl]
      generalize ltK ws (n1 - 1) = m at HLE hlen ⊢
      have HLN := Lib.hid hlen
      clear h hn h1 hl hcap hw hg hwk hcl hz1 hz2 hlen
      go_enter Try.func53, Try.ntmps53
      go_wp2_with fail
      refine calls_gen (fun W => Below w.heap.size w W ∧ W.cell? ⟨w.heap.size, 0, none⟩ = some (.int .i64 s) ∧ W.cell? ⟨w.heap.size, 1, none⟩ = some (.slice a n c)) ⟨hb0 _, by go_simp, by go_simp⟩ ?_
      rintro W ⟨hB, k0, k1⟩
      refine (HCO.out W hB).mono ?_
      rintro e w1 ⟨rfl, b1'⟩
      replace hB := hB.next b1'
      replace k0 := b1'.keep k0
      replace k1 := b1'.keep k1
      clear b1' HCO
      go_wp2_with fail
      refine (HCL.out w1 hB).mono ?_
      rintro e w2 ⟨rfl, b2⟩
      replace hB := hB.next b2
      clear b2 HCL k0 k1
      have HB2 := Lib.hid hB
      clear hB
      go_wp2_with fail
      refine (HLE.out w2 HB2.out).mono ?_
      rintro e w3 ⟨a', c', rfl, o3, b3⟩
      have HF := Lib.hid (⟨o3.mono HB2.out.size (Nat.le_refl _), HB2.out.next b3⟩ : OwI w.heap.size _ _ _ _ ∧ _)
      clear o3 b3 HLE
      go_wp2
      go_ret2
      refine ⟨a', c', ?_, ?_, HF.out.2⟩
      · show _ = Ending.returned (.tuple #[.slice a' m.length c', .int .i64 0])
        rw [HLN.out]; rfl
      · show OwI _ _ _ (.slice a' m.length c') m
        rw [HLN.out]; exact HF.out.1
    | false =>
      rw [hcl] at HCL
      rw [ltOf_open hw hcl]
      clear h hn h1 hl hcap hw hg hwk hcl hz1 hz2
      go_enter Try.func53, Try.ntmps53
      go_wp2_with fail
      refine calls_gen (fun W => Below w.heap.size w W ∧ W.cell? ⟨w.heap.size, 0, none⟩ = some (.int .i64 s) ∧ W.cell? ⟨w.heap.size, 1, none⟩ = some (.slice a n c)) ⟨hb0 _, by go_simp, by go_simp⟩ ?_
      rintro W ⟨hB, k0, k1⟩
      refine (HCO.out W hB).mono ?_
      rintro e w1 ⟨rfl, b1'⟩
      replace hB := hB.next b1'
      replace k0 := b1'.keep k0
      replace k1 := b1'.keep k1
      clear b1' HCO
      go_wp2_with fail
      refine (HCL.out w1 hB).mono ?_
      rintro e w2 ⟨rfl, b2⟩
      replace hB := hB.next b2
      clear b2 HCL k0 k1
      go_wp2
      go_ret2
      exact ⟨none, 0, rfl, OwI.nil' _ _ _, hB⟩
  · rw [ltOf_code hw]
    generalize wcode s xss ws = code at HCO hw ⊢
    have hcb : (code != 0) = true := by simpa using hw
    have hcb2 : (code == 0) = false := by simpa using hw
    clear h hn h1 hl hcap hw
    go_enter Try.func53, Try.ntmps53
    go_wp2_with fail
    refine calls_gen (fun W => Below w.heap.size w W) (hb0 _) ?_
    rintro W hB
    refine (HCO.out W hB).mono ?_
    rintro e w1 ⟨rfl, b1⟩
    replace hB := hB.next b1
    clear b1 HCO
    go_wp2
    go_ret2
    exact ⟨none, 0, rfl, OwI.nil' _ _ _, hB⟩

end Go.Proofs.Ytebgbplhcaocoaa
