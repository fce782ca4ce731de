/- IsPrimeWalk, both sides. -/
import Derived.Test.YtebgbplhcaocoaaIpw
import Derived.Test.YtebgbplhcaocoaaTurn
set_option linter.unusedSimpArgs false
set_option linter.unusedVariables false
set_option maxRecDepth 100000
namespace Go.Proofs.Ytebgbplhcaocoaa
open Go.RowKit

set_option maxHeartbeats 3200000 in
theorem implIp {lo hi lo1 hi1 : Nat} (s : Int) (a : Option Addr) (n c : Nat) (xss : List (List Int)) (a1 : Option Addr) (n1 c1 : Nat) (ws : List Int) (w : World) (h : RdR lo hi w (.slice a n c) xss) (hn : xss.length = n) (h1 : RdI lo1 hi1 w (.slice a1 n1 c1) ws) (hl : ws.length = n1) (hcap : n1 ≤ c1) :
    Calls Try.prog 56 #[.agg #[.int .i64 s, .slice a n c], .slice a1 n1 c1] w fun e w' => e = .returned (.tuple #[.bool (ipOf s xss ws).1, .int .i64 (ipOf s xss ws).2]) ∧ Below w.heap.size w w' := by
  have hb0 : ∀ o p q r, Below w.heap.size w ((((w.alloc o).alloc p).alloc q).alloc r) := fun o p q r => ((((Below.refl _ _).alloc (Nat.le_refl _) o).alloc (by simp) p).alloc (by simp; omega) q).alloc (by simp; omega) r
  by_cases hw : wcode s xss ws = 0
  · obtain ⟨hg, hwk⟩ := wcode_ok hw
    obtain ⟨hz1, hz2, _, _⟩ := wkB_iff.1 hwk
    rw [hl] at hz1
    cases hcl : clB (dirE (pairs xss)) ws with
    | true =>
      obtain ⟨b1, o1, rfl, _⟩ := h1.at hl 0 (by omega)
      rw [ipOf_yes hw hcl]
      exact callsIn_wide.1 (primeIn s a n c xss b1 o1 n1 c1 ws w h hn h1 hl hcap hw hcl)
    | false =>
      have HCW := Lib.hid (fun W (hB : Below w.heap.size w W) => checkWalk s a n c xss a1 n1 c1 ws W (h.below hB) hn (h1.below hB) hl hcap)
      have HCL := Lib.hid (fun W (hB : Below w.heap.size w W) => isClosed s a n c xss a1 n1 c1 ws W (h.below hB) hn hg (h1.below hB) hl hcap hwk)
      rw [hw] at HCW
      rw [hcl] at HCL
      rw [ipOf_open hw hcl]
      clear h hn h1 hl hcap hw hg hwk hcl hz1 hz2
      go_enter Try.func56, Try.ntmps56
      go_wp2_with fail
      refine calls_gen (fun W => ResI (w.heap.size + 1 + 1) false w W ∧ W.cell? ⟨w.heap.size, 0, none⟩ = some (.int .i64 s) ∧ W.cell? ⟨w.heap.size, 1, none⟩ = some (.slice a n c) ∧ W.cell? ⟨w.heap.size + 1, 0, none⟩ = some (.slice a1 n1 c1)) ⟨⟨hb0 _ _ _ _, by go_simp, by go_simp, by go_simp, by go_simp⟩, by go_simp, by go_simp, by go_simp⟩ ?_
      rintro W ⟨hR, k0, k1, k2⟩
      refine (HCW.out W hR.below).mono ?_
      rintro e w1 ⟨rfl, b1⟩
      replace hR := hR.next b1
      replace k0 := b1.keep k0
      replace k1 := b1.keep k1
      replace k2 := b1.keep k2
      have HR := Lib.hid hR
      clear b1 HCW hR
      go_wp2_with fail
      refine (HCL.out w1 HR.out.below).mono ?_
      rintro e w2 ⟨rfl, b2⟩
      have hR := HR.out.next b2
      obtain ⟨hB, r0, r1, f0, f1⟩ := hR
      have HB := Lib.hid hB
      clear b2 HCL k0 k1 k2 HR hB
      go_wp2
      refine bodyPost_ret (v := .tuple #[.bool false, .int .i64 0]) (by simp [results, Try.results56, go_sem, r0, r1, f0, f1]) rfl ⟨rfl, ?_⟩
      repeat (refine Below.setCell ?_ (by simp <;> omega) _)
      exact HB.out
  · have HCW := Lib.hid (fun W (hB : Below w.heap.size w W) => checkWalk s a n c xss a1 n1 c1 ws W (h.below hB) hn (h1.below hB) hl hcap)
    rw [ipOf_code hw]
    generalize wcode s xss ws = code at HCW hw ⊢
    have hcb : (code != 0) = true := by simpa using hw
    clear h hn h1 hl hcap hw
    go_enter Try.func56, Try.ntmps56
    go_wp2_with fail
    refine calls_gen (fun W => ResI (w.heap.size + 1 + 1) false w W) ⟨hb0 _ _ _ _, by go_simp, by go_simp, by go_simp, by go_simp⟩ ?_
    rintro W hR
    refine (HCW.out W hR.below).mono ?_
    rintro e w1 ⟨rfl, b1⟩
    obtain ⟨hB, r0, r1, f0, f1⟩ := hR.next b1
    have HB := Lib.hid hB
    clear b1 HCW hR hB
    go_wp2
    refine bodyPost_ret (v := .tuple #[.bool false, .int .i64 code]) (by simp [results, Try.results56, go_sem, r0, r1, f0, f1]) rfl ⟨rfl, ?_⟩
    repeat (refine Below.setCell ?_ (by simp <;> omega) _)
    exact HB.out

theorem bef_eqL (xs ys : List Int) : ∀ m k, eqL xs ys m k = (!bef xs ys m k && !bef ys xs m k)
  | 0, _ => rfl
  | m + 1, k => by
    simp only [eqL, bef]
    by_cases e : xs.getD k 0 = ys.getD k 0
    · rw [if_pos e, if_pos e, if_pos e.symm, bef_eqL xs ys m (k + 1)]
    · rw [if_neg e, if_neg e, if_neg (fun h => e h.symm)]
      by_cases h : xs.getD k 0 < ys.getD k 0
      · rw [decide_eq_true h]; rfl
      · rw [decide_eq_false h, decide_eq_true (show ys.getD k 0 < xs.getD k 0 by omega)]; rfl

set_option maxHeartbeats 3200000 in
theorem specIp {lo hi lo1 hi1 : Nat} (s : Int) (a : Option Addr) (n c : Nat) (xss : List (List Int)) (a1 : Option Addr) (n1 c1 : Nat) (ws : List Int) (w : World) (h : RdR lo hi w (.slice a n c) xss) (hn : xss.length = n) (h1 : RdI lo1 hi1 w (.slice a1 n1 c1) ws) (hl : ws.length = n1) (hcap : n1 ≤ c1) :
    Calls Try.prog 55 #[.agg #[.int .i64 s, .slice a n c], .slice a1 n1 c1] w fun e w' => e = .returned (.tuple #[.bool (ipOf s xss ws).1, .int .i64 (ipOf s xss ws).2]) ∧ Below w.heap.size w w' := by
  have hb0 : ∀ o, Below w.heap.size w (w.alloc o) := fun o => (Below.refl _ _).alloc (Nat.le_refl _) o
  have HCO := Lib.hid (fun W (hB : Below w.heap.size w W) => l03Code s a n c xss a1 n1 c1 ws W (h.below hB) hn (h1.below hB) hl)
  by_cases hw : wcode s xss ws = 0
  · obtain ⟨hg, hwk⟩ := wcode_ok hw
    obtain ⟨hz1, hz2, _, _⟩ := wkB_iff.1 hwk
    rw [hl] at hz1 hz2
    obtain ⟨b1, o1, rfl, _⟩ := h1.at hl 0 (by omega)
    have HPR : Hid (∀ W (hB : Below w.heap.size w W), Calls Try.prog 118 #[.agg #[.int .i64 s, .slice a n c], .slice (some ⟨b1, o1, none⟩) n1 c1] W fun e w' => e = .returned (.bool (ipOf s xss ws).1) ∧ Below W.heap.size W w') := Lib.hid (fun U hBU => by
      have HCL := Lib.hid (fun W (hB : Below U.heap.size U W) => l03Closed s a n c xss (some ⟨b1, o1, none⟩) n1 c1 ws W ((h.below hBU).below hB) hn hg ((h1.below hBU).below hB) hl hwk)
      have HT := Lib.hid (fun k (h0 : 0 < k) (hk : k < n1) W (hB : Below U.heap.size U W) => l03Turn b1 o1 n1 c1 ws k W ((h1.below hBU).below hB) hl hcap h0 hk (by omega))
      have HBF := Lib.hid (fun (a' : Option Addr) (c' lo' hi' : Nat) (ys : List Int) W (hB : Below U.heap.size U W) (h' : RdI lo' hi' W (.slice a' n1 c') ys) hy => And.intro (l03Before a' n1 c' ys (some ⟨b1, o1, none⟩) c1 ws W h' hy ((h1.below hBU).below hB) hl (by omega)) (l03Before (some ⟨b1, o1, none⟩) n1 c1 ws a' c' ys W ((h1.below hBU).below hB) hl h' hy (by omega)))
      have HL := Lib.hid hl
      have hbU : ∀ o, Below U.heap.size U (U.alloc o) := fun o => (Below.refl _ _).alloc (Nat.le_refl _) o
      cases hcl : clB (dirE (pairs xss)) ws with
      | false =>
        rw [hcl] at HCL
        rw [ipOf_open hw hcl]
        clear h hn h1 hl hcap hw hg hwk hcl
        go_enter Try.func118, Try.ntmps118
        go_wp2_with fail
        refine calls_gen (fun W => Below U.heap.size U W) (hbU _) ?_
        rintro W hB
        refine (HCL.out W hB).mono ?_
        rintro e w2 ⟨rfl, b2⟩
        replace hB := hB.next b2
        clear b2 HCL
        go_wp2
        go_ret
        exact ⟨rfl, hB⟩
      | true =>
        rw [hcl] at HCL
        rw [ipOf_yes hw hcl]
        have HNO := Lib.hid (fun k hk1 (hk2 : k < n1) he => prB_no (ws := ws) (k := k) hk1 (by rw [hl]; exact hk2) he)
        have HYE := Lib.hid (fun (he : ∀ k, 1 ≤ k → k < n1 → turnL ws k ≠ ws) => prB_yes (ws := ws) (fun k h1 h2 => he k h1 (by omega)))
        show Calls _ _ _ _ fun e w' => e = .returned (.bool (prB ws)) ∧ _
        generalize prB ws = R at HNO HYE ⊢
        clear h hn h1 hl hcap hw hg hwk hcl
        go_enter Try.func118, Try.ntmps118
        go_wp2_with fail
        refine calls_gen (fun W => Below U.heap.size U W) (hbU _) ?_
        rintro W hB
        refine (HCL.out W hB).mono ?_
        rintro e w2 ⟨rfl, b2⟩
        have HB2 := Lib.hid (hB.next b2)
        clear b2 HCL hB
        go_wp2
        go_loopw [5] (fun i wr => ∃ k : Nat, k + 1 ≤ n1 ∧ i = .int .i64 ((k + 1 : Nat) : Int) ∧ Below U.heap.size U wr ∧ Hid (∀ q, 1 ≤ q → q ≤ k → turnL ws q ≠ ws)) (fun i _ => n1 - (intOf i).toNat)
        case atStart => exact ⟨0, hz1, rfl, HB2.out, Lib.hid (fun q h1 h2 => by omega)⟩
        case round =>
          clear HB2
          obtain ⟨k, hk, rfl, hB, HA⟩ := hrel
          obtain ⟨K, hK⟩ : ∃ K, K = k + 1 := ⟨_, rfl⟩
          rw [← hK]
          by_cases hlt : K < n1
          · have hKn : (K : Int) < (n1 : Int) := by omega
            have HKK := Lib.hid hK
            have HTW := Lib.hid (HT.out K (by omega) hlt wr hB)
            have HBB := Lib.hid hB
            clear hB hK
            go_wp2_with fail
            refine HTW.out.mono ?_
            rintro e w3 ⟨ta, tc, rfl, o3, b3⟩
            have hl1 : (turnL ws K).length = n1 := by rw [turnL_len, HL.out]
            have HB3 := Lib.hid (HBB.out.next b3)
            have HR3 := Lib.hid o3
            have heq := eqL_eq (xs := turnL ws K) (ys := ws) (n := n1) hl1 HL.out
            rw [bef_eqL] at heq
            have HC1 := Lib.hid (HBF.out ta tc _ _ (turnL ws K) w3 HB3.out o3.rd hl1).1
            have HC2 := Lib.hid (fun W (hq : Qt w3 W) => (HBF.out ta tc _ _ (turnL ws K) W (HB3.out.qt hq) (o3.qt hq).rd hl1).2)
            generalize bef (turnL ws K) ws n1 0 = x at HC1 heq
            generalize bef ws (turnL ws K) n1 0 = y at HC2 heq
            have HEQ := Lib.hid heq
            clear o3 b3 HTW hl1 heq
            cases x with
            | true =>
              have hne : turnL ws K ≠ ws := fun e => by have := HEQ.out.2 e; cases this
              have HN := Lib.hid (show ∀ q, 1 ≤ q → q ≤ K → turnL ws q ≠ ws from fun q h1 h2 => by
                by_cases e : q = K
                · rw [e]; exact hne
                · exact HA.out q h1 (by have := HKK.out; omega))
              clear hne
              go_wp2_with fail
              refine HC1.out.mono ?_
              rintro e w4 ⟨rfl, q4⟩
              have HB4 := Lib.hid (HB3.out.qt q4)
              clear q4 HC1
              go_wp2
              go_roundw
              case rel => exact ⟨K, by omega, by go_num, HB4.out, HN⟩
              case measure => simp [intOf]; omega
            | false =>
              go_wp2_with fail
              refine HC1.out.mono ?_
              rintro e w4 ⟨rfl, q4⟩
              have HB4 := Lib.hid (HB3.out.qt q4)
              have HC3 := Lib.hid (HC2.out w4 q4)
              clear q4 HC1 HC2
              cases y with
              | true =>
                have hne : turnL ws K ≠ ws := fun e => by have := HEQ.out.2 e; cases this
                have HN := Lib.hid (show ∀ q, 1 ≤ q → q ≤ K → turnL ws q ≠ ws from fun q h1 h2 => by
                  by_cases e : q = K
                  · rw [e]; exact hne
                  · exact HA.out q h1 (by have := HKK.out; omega))
                clear hne
                go_wp2_with fail
                refine HC3.out.mono ?_
                rintro e w5 ⟨rfl, q5⟩
                have HB5 := Lib.hid (HB4.out.qt q5)
                clear q5 HC3
                go_wp2
                go_roundw
                case rel => exact ⟨K, by omega, by go_num, HB5.out, HN⟩
                case measure => simp [intOf]; omega
              | false =>
                have he : turnL ws K = ws := HEQ.out.1 rfl
                have hR := HNO.out K (by have := HKK.out; omega) hlt he
                subst hR
                clear he
                go_wp2_with fail
                refine HC3.out.mono ?_
                rintro e w5 ⟨rfl, q5⟩
                have HB5 := Lib.hid (HB4.out.qt q5)
                clear q5 HC3
                go_wp2
                go_ret
                exact ⟨rfl, HB5.out⟩
          · have hR := HYE.out (fun q h1 h2 => HA.out q h1 (by omega))
            subst hR
            have HB4 := Lib.hid hB
            have hno : ¬ (K : Int) < (n1 : Int) := by omega
            clear hB
            go_wp2
            go_ret
            exact ⟨rfl, HB4.out⟩)
    have h2 : (ipOf s xss ws).2 = 0 := by unfold ipOf; rw [if_pos hw]
    rw [h2]
    rw [hw] at HCO
    generalize (ipOf s xss ws).1 = v at HPR ⊢
    clear h hn h1 hl hcap hw hg hwk hz1 hz2 h2
    go_enter Try.func55, Try.ntmps55
    go_wp2_with fail
    refine calls_gen (fun W => Below w.heap.size w W ∧ W.cell? ⟨w.heap.size, 0, none⟩ = some (.int .i64 s) ∧ W.cell? ⟨w.heap.size, 1, none⟩ = some (.slice a n c)) ⟨hb0 _, by go_simp, by go_simp⟩ ?_
    rintro W ⟨hB, k0, k1⟩
    refine (HCO.out W hB).mono ?_
    rintro e w1 ⟨rfl, b1'⟩
    replace hB := hB.next b1'
    replace k0 := b1'.keep k0
    replace k1 := b1'.keep k1
    clear b1' HCO
    go_wp2_with fail
    refine (HPR.out w1 hB).mono ?_
    rintro e w2 ⟨rfl, b2⟩
    replace hB := hB.next b2
    clear b2 HPR k0 k1
    go_wp2
    refine bodyPost_ret (v := .tuple #[.bool v, .int .i64 0]) (by simp [results, Try.results55, go_sem]) rfl ⟨rfl, hB⟩
  · rw [ipOf_code hw]
    generalize wcode s xss ws = code at HCO hw ⊢
    have hcb : (code != 0) = true := by simpa using hw
    clear h hn h1 hl hcap hw
    go_enter Try.func55, Try.ntmps55
    go_wp2_with fail
    refine calls_gen (fun W => Below w.heap.size w W) (hb0 _) ?_
    rintro W hB
    refine (HCO.out W hB).mono ?_
    rintro e w1 ⟨rfl, b1⟩
    replace hB := hB.next b1
    clear b1 HCO
    go_wp2
    refine bodyPost_ret (v := .tuple #[.bool false, .int .i64 code]) (by simp [results, Try.results55, go_sem]) rfl ⟨rfl, hB⟩

end Go.Proofs.Ytebgbplhcaocoaa
