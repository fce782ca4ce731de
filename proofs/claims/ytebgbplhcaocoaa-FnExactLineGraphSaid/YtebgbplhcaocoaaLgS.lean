/- LineGraph of the model. -/
import Derived.Test.YtebgbplhcaocoaaLgT
set_option linter.unusedSimpArgs false
set_option linter.unusedVariables false
set_option maxRecDepth 100000
namespace Go.Proofs.Ytebgbplhcaocoaa
open Go.RowKit

/-- what the model's loops keep -/
structure LoI (B y x : Nat) (s : Int) (a : Option Addr) (n c : Nat) (w : World) (g m cc : Nat) (W : World) : Prop where
  base : RbL B y s a n c w W
  x0 : W.cell? ⟨x, 0, none⟩ = some (.int .i64 (n : Int))
  x1 : W.cell? ⟨x, 1, none⟩ = some (.slice (some ⟨g, 0, none⟩) m cc)
  xf : W.frozen? ⟨x, 1, none⟩ = false
  xlt : x < W.heap.size

theorem beqI (x y : Nat) : ((x : Int) == (y : Int)) = decide (x = y) := by
  by_cases h : x = y
  · subst h; simp
  · rw [decide_eq_false h]; simp; omega

theorem LoI.snoc {B y x : Nat} {s : Int} {a : Option Addr} {n c : Nat} {w wr w4 : World} {g m cc g4 c4 : Nat} (hI : LoI B y x s a n c w g m cc wr) (hyg : y < g) (hyx : y < x) (hgx : x < g ∨ g + 1 ≤ x) (hch : Chg g (g + 1) wr w4) : LoI B y x s a n c w g4 (m + 1) c4 (w4.setCell ⟨x, 1, none⟩ (.slice (some ⟨g4, 0, none⟩) (m + 1) c4)) := by
  have y1 := hch.cell hI.x1 hgx
  have yf := hch.frozen (show x < wr.heap.size from hI.xlt) hgx hI.xf
  have hbx : Chg x (x+1) w4 (w4.setCell ⟨x, 1, none⟩ (.slice (some ⟨g4, 0, none⟩) (m + 1) c4)) := (Chg.refl x (x+1) _).setCell (p := ⟨x, 1, none⟩) ⟨Nat.le_refl _, Nat.lt_succ_self _⟩ _
  have hsz := hch.size
  have hxl := hI.xlt
  exact ⟨(hI.base.chg hch hyg).chg hbx hyx, by rw [World.cell?_setCell_other _ _ _ _ (by simp)]; exact hch.cell hI.x0 hgx, World.cell?_setCell_same _ _ _ y1, by rw [World.frozen?_setCell]; exact yf, by rw [World.size_setCell]; omega⟩

set_option maxHeartbeats 6400000 in
theorem specLg {lo hi : Nat} (s : Int) (a : Option Addr) (n c : Nat) (xss : List (List Int)) (w : World) (h : RdR lo hi w (.slice a n c) xss) (hn : xss.length = n) :
    Calls Try.prog 38 #[.agg #[.int .i64 s, .slice a n c]] w fun e w' => ∃ a' c', e = .returned (.tuple #[.agg #[.int .i64 (lgOf s xss).1.1, .slice a' (lgOf s xss).1.2.length c'], .int .i64 (lgOf s xss).2]) ∧ OwR w.heap.size w'.heap.size w' (.slice a' (lgOf s xss).1.2.length c') (lgOf s xss).1.2 ∧ Below w.heap.size w w' := by
  obtain ⟨i0, hi', z0, z1, z2⟩ := info_parts Try.info37
  have hb0 : ∀ o o', Below w.heap.size w ((w.alloc o).alloc o') := fun o o' => ((Below.refl _ _).alloc (Nat.le_refl _) o).alloc (by simp) o'
  have HI := Lib.hid (fun W (hB : Below w.heap.size w W) => l01Is s a n c xss W (h.below hB) hn)
  cases hg : grB s xss with
  | false =>
    rw [hg] at HI
    rw [lgOf_no hg]
    clear h hn hg
    go_enter Try.func38, Try.ntmps38
    go_wp2_with fail
    refine calls_gen (fun W => RbL w.heap.size (w.heap.size + 1) s a n c w W) ⟨hb0 _ _, by go_simp, by go_simp, by go_simp, by go_simp, by simp, by omega, by go_simp, by go_simp⟩ ?_
    rintro W hI
    refine (HI.out W hI.below).mono ?_
    rintro e w1 ⟨rfl, b1⟩
    have hI1 := hI.next b1
    obtain ⟨y0, y1, f0, f1, ylt, hB5⟩ := (⟨hI1.y0, hI1.y1, hI1.f0, hI1.f1, hI1.ylt, hI1.below⟩ : _ ∧ _ ∧ _ ∧ _ ∧ _ ∧ _)
    clear b1 HI hI hI1
    go_wp2
    refine bodyPost_ret (v := .tuple #[.agg #[.int .i64 0, .slice none 0 0], .int .i64 1]) (by simp [results, Try.results38, go_sem, y0, y1, f0, f1]) rfl ⟨none, 0, rfl, OwR.nil (World.ownsRow_nil _ _ _ _) (Nat.le_refl _), ?_⟩
    repeat (refine Below.setCell ?_ (by simp <;> omega) _)
    exact hB5
  | true =>
    rw [hg] at HI
    have hg4 := grB_iff hg
    obtain ⟨S, hS⟩ : ∃ S : Nat, s = (S : Int) := ⟨s.toNat, by omega⟩
    subst hS
    have hn10 : n ≤ 10 := by omega
    have hS8 : S ≤ 8 := by omega
    have HC := Lib.hid (fun W (hB : Below w.heap.size w W) k (hk : k < n) => edgeAt (h.below hB) hn hg hk)
    have HPQ := Lib.hid (fun k (hk : k < n) => (pq_get hg (k := k) (by omega)).2)
    have hpl : (pairs xss).length = n := by rw [pairs_len, hn]
    have HLY := Lib.hid (fun k (hk : k < n) (e : pE xss k = qE xss k) => lpE_yes (es := pairs xss) (k := k) (by omega) (by rw [(pq_get hg (k := k) (by omega)).1, e]))
    have HLN := Lib.hid (fun (e : ∀ k, k < n → pE xss k ≠ qE xss k) => lpE_no (es := pairs xss) (fun k hk => by
      rw [(pq_get hg (k := k) (by omega)).1]
      have := e k (by omega)
      show (pE xss k : Int) ≠ (qE xss k : Int)
      omega))
    have HST := Lib.hid (fun e => lgOf_st hg e)
    have HLM := Lib.hid (fun e1 e2 => lgOf_lim hg e1 e2)
    have HYS := Lib.hid (fun e1 e2 => lgOf_yes hg e1 e2)
    have HLE := Lib.hid (show lgL xss = mtT (pE xss) (qE xss) n n by unfold lgL; rw [hn])
    rw [hn] at HST HLM HYS
    generalize lgOf (S : Int) xss = R at HST HLM HYS ⊢
    generalize lgL xss = L at HLE HLM HYS
    generalize lpE (pairs xss) = lb at HLY HLN HST HLM HYS
    generalize pE xss = P at HC HPQ HLY HLN HLE
    generalize qE xss = Q at HC HPQ HLY HLN HLE
    clear h hn hg hg4 hpl
    go_enter Try.func38, Try.ntmps38
    go_wp2_with fail
    refine calls_gen (fun W => RbL w.heap.size (w.heap.size + 1) S a n c w W) ⟨hb0 _ _, by go_simp, by go_simp, by go_simp, by go_simp, by simp, by omega, by go_simp, by go_simp⟩ ?_
    rintro W hI
    refine (HI.out W hI.below).mono ?_
    rintro e w1 ⟨rfl, b1⟩
    have HB := Lib.hid (hI.next b1)
    obtain ⟨B, hB⟩ : ∃ B, B = w.heap.size := ⟨_, rfl⟩
    obtain ⟨y, hy⟩ : ∃ y, y = w.heap.size + 1 := ⟨_, rfl⟩
    rw [← hy, ← hB] at HB
    rw [← hB] at HC ⊢
    have HBY := Lib.hid (show y = B + 1 by omega)
    have HBw := Lib.hid hB
    rw [show B + 1 = y by omega]
    clear b1 HI hI hB hy hb0
    go_wp2
    go_loopw [4] (fun v wr => ∃ k : Nat, k ≤ n ∧ v = .int .i64 k ∧ Hid (∀ i, i < k → P i ≠ Q i) ∧ RbL B y S a n c w wr) (fun v _ => n - (intOf v).toNat)
    case atStart => exact ⟨0, Nat.zero_le _, rfl, Lib.hid (fun i hi => by omega), HB.out⟩
    case round =>
      clear HB
      obtain ⟨k, hk, rfl, HA, hI⟩ := hrel
      have k1 := hI.k1
      by_cases hlt : k < n
      · obtain ⟨b, off, b', off', c', rfl, e1, e2, e3⟩ := HC.out wr hI.below k hlt
        have hkn : (k : Int) < (n : Int) := by omega
        replace e2 : wr.cell? ⟨b', off', none⟩ = some (.int .i64 (P k : Int)) := e2
        by_cases hpq : P k = Q k
        · have hlb := HLY.out k hlt hpq
          have hR := HST.out (.inr hlb)
          subst hR
          have hb : ((P k : Int) == (Q k : Int)) = true := by simp [hpq]
          obtain ⟨y0, y1, f0, f1, ylt, hB5, by0⟩ := (⟨hI.y0, hI.y1, hI.f0, hI.f1, hI.ylt, hI.below, hI.by0⟩ : _ ∧ _ ∧ _ ∧ _ ∧ _ ∧ _ ∧ _)
          generalize P k = p at *
          generalize Q k = q at *
          have HBB := Lib.hid hB5
          clear hI hpq hlb HLY HLN HPQ hB5
          go_wp2
          go_quiet (fail)
          go_wp2
          rw [← HBw.out]
          refine bodyPost_ret (v := .tuple #[.agg #[.int .i64 0, .slice none 0 0], .int .i64 5]) (by simp [results, Try.results38, go_sem, y0, y1, f0, f1]) rfl ⟨none, 0, rfl, OwR.nil (World.ownsRow_nil _ _ _ _) (Nat.le_refl _), ?_⟩
          repeat (refine Below.setCell ?_ (by simp <;> omega) _)
          exact HBB.out.drewN _
        · have hb : ((P k : Int) == (Q k : Int)) = false := by simp; omega
          have HF := Lib.hid (⟨Lib.hid (fun i hi => by
            by_cases e : i = k
            · subst e; exact hpq
            · exact HA.out i (by omega)), hI⟩ : Hid (∀ i, i < k + 1 → P i ≠ Q i) ∧ _)
          generalize P k = p at e2 hb
          generalize Q k = q at e3 hb
          clear hpq hI
          go_wp2
          go_quiet (fail)
          go_wp2
          go_roundw
          case rel => exact ⟨k+1, by omega, by go_num, HF.out.1, HF.out.2.next ((Qt.refl wr).drewN _).below⟩
          case measure => simp [intOf]; omega
      · obtain rfl : k = n := by omega
        by_cases hn0 : k = 0
        · subst hn0
          have hR := HST.out (.inl rfl)
          subst hR
          obtain ⟨y0, y1, f0, f1, ylt, hB5, by0⟩ := (⟨hI.y0, hI.y1, hI.f0, hI.f1, hI.ylt, hI.below, hI.by0⟩ : _ ∧ _ ∧ _ ∧ _ ∧ _ ∧ _ ∧ _)
          have HBB := Lib.hid hB5
          clear hI hB5 HLY HLN HPQ
          go_wp2
          rw [← HBw.out]
          refine bodyPost_ret (v := .tuple #[.agg #[.int .i64 0, .slice none 0 0], .int .i64 5]) (by simp [results, Try.results38, go_sem, y0, y1, f0, f1]) rfl ⟨none, 0, rfl, OwR.nil (World.ownsRow_nil _ _ _ _) (Nat.le_refl _), ?_⟩
          repeat (refine Below.setCell ?_ (by simp <;> omega) _)
          exact HBB.out
        · have hnb : ((k : Int) == 0) = false := by simp; omega
          have hlb := HLN.out HA.out
          have hno : ¬ (k = 0 ∨ lb = true) := by rw [hlb]; simp; exact hn0
          have HNO := Lib.hid hno
          by_cases h8 : k ≤ 8
          · obtain ⟨T, hTe⟩ : ∃ T : Nat → List (Int × Int), T = mtT P Q k := ⟨_, rfl⟩
            obtain ⟨I, hIe⟩ : ∃ I : Nat → Nat → List (Int × Int), I = mtI P Q := ⟨_, rfl⟩
            obtain ⟨K, hKe⟩ : ∃ K : Nat → Nat → Nat → List (Int × Int), K = vtK P Q := ⟨_, rfl⟩
            have HT := Lib.hid (fun i => show T (i + 1) = T i ++ I i k by rw [hTe, hIe]; rfl)
            have HT0 := Lib.hid (show T 0 = [] by rw [hTe]; rfl)
            have HTL := Lib.hid (fun i (hi : i ≤ k) => show (T i).length ≤ 200 by rw [hTe]; have h1 := mtT_len P Q k i; have h2 : i * (2 * k) ≤ 10 * 20 := Nat.mul_le_mul (by omega) (by omega); omega)
            have HI0 := Lib.hid (fun i => show I i (i + 1) = [] by rw [hIe]; exact mtI_low P Q i (i + 1) (Nat.le_refl _))
            have HIL := Lib.hid (fun i j (hj : j ≤ k) => show (I i j).length ≤ 40 by rw [hIe]; have := mtI_len P Q i j; omega)
            have HIS := Lib.hid (fun i j (h : i < j) (hj : j < k) => show I i (j + 1) = I i j ++ K i j S by
              rw [hIe, hKe, vtK_eq j (HA.out i (by omega)) (HPQ.out i (by omega)).1 (HPQ.out i (by omega)).2]
              show _ ++ (if i < j then _ else _) = _; rw [if_pos h])
            have HK0 := Lib.hid (fun i j => show K i j 0 = [] by rw [hKe]; rfl)
            have HKL := Lib.hid (fun i j v (hv : v ≤ S) => show (K i j v).length ≤ 8 by rw [hKe]; have := vtK_len P Q i j v; omega)
            have HKY := Lib.hid (fun i j v (h : (P i = v ∨ Q i = v) ∧ (P j = v ∨ Q j = v)) => show K i j (v + 1) = K i j v ++ [((i : Int), (j : Int))] by rw [hKe]; exact vtK_yes h)
            have HKN := Lib.hid (fun i j v (h : ¬ ((P i = v ∨ Q i = v) ∧ (P j = v ∨ Q j = v))) => show K i j (v + 1) = K i j v by rw [hKe]; exact vtK_no h)
            have HLT := Lib.hid (show L = T k by rw [hTe]; exact HLE.out)
            clear hTe hIe hKe hlb hno HLE HLY HLN
            obtain ⟨G, hG⟩ : ∃ G, G = wr.heap.size := ⟨_, rfl⟩
            obtain ⟨x, hx⟩ : ∃ x, x = wr.heap.size + 1 := ⟨_, rfl⟩
            have hl0 := World.ownsRow_lit (base := wr.heap.size) (e := 37) (size := 1) wr #[] 0 (Nat.le_refl _) (by unfold maxLen; omega) rfl
            have hl1 := hl0.alloc (.cells #[.int .i64 (k : Int), .slice (some ⟨wr.heap.size, 0, none⟩) 0 0] 28)
            obtain ⟨V, hV⟩ : ∃ V, V = ((wr.alloc (.cells #[] 37)).alloc (.cells #[.int .i64 (k : Int), .slice (some ⟨wr.heap.size, 0, none⟩) 0 0] 28)) := ⟨_, rfl⟩
            have hyl := hI.ylt
            have hbV : Below wr.heap.size wr V := by rw [hV]; exact ((Below.refl _ _).alloc (Nat.le_refl _) _).alloc (by simp) _
            have hIV : LoI B y x S a k c w G 0 0 V := by
              refine ⟨hI.next hbV, ?_, ?_, ?_, ?_⟩
              · rw [hx, hV]; go_simp
              · rw [hx, hV, hG]; go_simp
              · rw [hx, hV]; go_simp
              · rw [hx, hV]; simp
            rw [← hV] at hl1
            rw [← hG] at hl1
            have hP0 : OwP G x V G 0 0 [] [] := OwP.empty hl1 (by omega)
            have HO := Lib.hid (show y < G ∧ G < x by omega)
            have HVV := Lib.hid (⟨hV, hG, hx⟩ : _ ∧ _ ∧ _)
            have HI1 := Lib.hid (⟨hP0, hIV⟩ : _ ∧ _)
            clear hI hbV hIV hP0 hl0 hl1 hyl hV hG hx
            go_wp2
            rw [← HVV.out.1, ← HVV.out.2.2]
            clear HVV k1
            go_loopw [7] (fun v wr => ∃ (i m g cc : Nat) (rvs : List Value) (es : List (Int × Int)), i ≤ k ∧ v = .int .i64 i ∧ Hid (es = T i) ∧ OwP G x wr g m cc rvs (unp es) ∧ LoI B y x S a k c w g m cc wr) (fun v _ => k - (intOf v).toNat)
            case atStart => exact ⟨0, 0, G, 0, [], [], Nat.zero_le _, rfl, Lib.hid HT0.out.symm, HI1.out⟩
            case round =>
              rename_i hrel
              clear HI1
              obtain ⟨i, m, g, cc, rvs, es, hi, rfl, HX, hP, hI⟩ := hrel
              by_cases hli : i < k
              · have hik : (i : Int) < (k : Int) := by omega
                have HP := Lib.hid (⟨by rw [HI0.out, List.append_nil]; exact HX.out, hP, hI⟩ : es = T i ++ I i (i + 1) ∧ _ ∧ _)
                clear HX hP hI
                go_wp2
                go_loopw [8] (fun v wr => ∃ (j m g cc : Nat) (rvs : List Value) (es : List (Int × Int)), i + 1 ≤ j ∧ j ≤ k ∧ v = .int .i64 j ∧ Hid (es = T i ++ I i j) ∧ OwP G x wr g m cc rvs (unp es) ∧ LoI B y x S a k c w g m cc wr) (fun v _ => k - (intOf v).toNat)
                case atStart => exact ⟨i + 1, m, g, cc, rvs, es, Nat.le_refl _, hli, by go_num, Lib.hid HP.out.1, HP.out.2⟩
                case round =>
                  rename_i hrel
                  clear HP
                  obtain ⟨j, m, g, cc, rvs, es, hij, hj, rfl, HX, hP, hI⟩ := hrel
                  by_cases hlj : j < k
                  · have hjk : (j : Int) < (k : Int) := by omega
                    have HP := Lib.hid (⟨by rw [HK0.out, List.append_nil]; exact HX.out, hP, hI⟩ : es = T i ++ I i j ++ K i j 0 ∧ _ ∧ _)
                    clear HX hP hI
                    go_wp2
                    go_loopw [9] (fun v wr => ∃ (u m g cc : Nat) (rvs : List Value) (es : List (Int × Int)), u ≤ S ∧ v = .int .i64 u ∧ Hid (es = T i ++ I i j ++ K i j u) ∧ OwP G x wr g m cc rvs (unp es) ∧ LoI B y x S a k c w g m cc wr) (fun v _ => S - (intOf v).toNat)
                    case atStart => exact ⟨0, m, g, cc, rvs, es, Nat.zero_le _, rfl, Lib.hid HP.out.1, HP.out.2⟩
                    case round =>
                      rename_i hrel
                      clear HP
                      obtain ⟨u, m, g, cc, rvs, es, hu, rfl, HX, hP, hI⟩ := hrel
                      have k0 := hI.base.k0
                      by_cases hlu : u < S
                      · have huS : (u : Int) < (S : Int) := by omega
                        have k1 := hI.base.k1
                        obtain ⟨b, off, b', off', c', rfl, e1, e2, e3⟩ := HC.out wr hI.base.below i hli
                        obtain ⟨b2, off2, d', doff', dc', hbe, d1, d2, d3⟩ := HC.out wr hI.base.below j hlj
                        simp only [Option.some.injEq, Addr.mk.injEq, and_true] at hbe
                        obtain ⟨rfl, rfl⟩ := hbe
                        replace e2 : wr.cell? ⟨b', off', none⟩ = some (.int .i64 (P i : Int)) := e2
                        replace d2 : wr.cell? ⟨d', doff', none⟩ = some (.int .i64 (P j : Int)) := d2
                        have hKY := HKY.out i j u
                        have hKN := HKN.out i j u
                        have hml : es.length = m := by have := hP.len; rw [unp_len] at this; exact this
                        have hm250 : m ≤ 250 := by
                          rw [← hml, HX.out, List.length_append, List.length_append]
                          have h1 := HTL.out i hi
                          have h2 := HIL.out i j hj
                          have h3 := HKL.out i j u hu
                          omega
                        have hcyc : (((P i : Int) == (u : Int)) = true ∨ (((P i : Int) == (u : Int)) = false ∧ ((Q i : Int) == (u : Int)) = true)) ∨ (((P i : Int) == (u : Int)) = false ∧ ((Q i : Int) == (u : Int)) = false) := by
                          cases ((P i : Int) == (u : Int)) <;> cases ((Q i : Int) == (u : Int)) <;> simp
                        have hdyc : (((P j : Int) == (u : Int)) = true ∨ (((P j : Int) == (u : Int)) = false ∧ ((Q j : Int) == (u : Int)) = true)) ∨ (((P j : Int) == (u : Int)) = false ∧ ((Q j : Int) == (u : Int)) = false) := by
                          cases ((P j : Int) == (u : Int)) <;> cases ((Q j : Int) == (u : Int)) <;> simp
                        have hA1 : (P i = u ∨ Q i = u) ↔ ¬ (((P i : Int) == (u : Int)) = false ∧ ((Q i : Int) == (u : Int)) = false) := by
                          simp only [beqI, decide_eq_false_iff_not]; omega
                        have hA2 : (P j = u ∨ Q j = u) ↔ ¬ (((P j : Int) == (u : Int)) = false ∧ ((Q j : Int) == (u : Int)) = false) := by
                          simp only [beqI, decide_eq_false_iff_not]; omega
                        rw [hA1, hA2] at hKY hKN
                        generalize P i = p1 at e2 hcyc hKY hKN
                        generalize Q i = p2 at e3 hcyc hKY hKN
                        generalize P j = p3 at d2 hdyc hKY hKN
                        generalize Q j = p4 at d3 hdyc hKY hKN
                        have HKK := Lib.hid (⟨hKY, hKN⟩ : _ ∧ _)
                        have HP := Lib.hid (⟨HX.out, hP, hI, hm250, hml⟩ : _ ∧ _ ∧ _ ∧ _ ∧ _)
                        have HYN := Lib.hid (⟨hA1, hA2⟩ : _ ∧ _)
                        clear hKY hKN hA1 hA2 HX hP hI hml
                        rcases hcyc with (f1 | ⟨f1, f2⟩) | ⟨f1, f2⟩
                        · rcases hdyc with (g1 | ⟨g1, g2⟩) | ⟨g1, g2⟩
                          · have hst := HKK.out.1 (by simp [f1, g1])
                            have HST := Lib.hid (show unp (T i ++ I i j ++ K i j (u + 1)) = unp es ++ [[(i : Int), (j : Int)]] by rw [hst, HP.out.1, ← List.append_assoc, unp_snoc])
                            clear hst
                            have hgl := HP.out.2.1.lt
                            have hgx := HP.out.2.1.exg
                            have hxl := HP.out.2.2.1.xlt
                            have x1 := HP.out.2.2.1.x1
                            have xf := HP.out.2.2.1.xf
                            have hv := OwI.two (lo := wr.heap.size) (w := wr) (x := (i : Int)) (y := (j : Int)) (by unfold I64; omega) (by unfold I64; omega) (Nat.le_refl _)
                            have bb : Below wr.heap.size wr (wr.alloc (.cells #[.int .i64 (i : Int), .int .i64 (j : Int)] 2)) := (Below.refl _ _).alloc (Nat.le_refl _) _
                            have hs1 : (wr.alloc (.cells #[.int .i64 (i : Int), .int .i64 (j : Int)] 2)).heap.size = wr.heap.size + 1 := by simp
                            have hownV := (HP.out.2.1.below bb).out.alloc (.cells #[.slice (some ⟨wr.heap.size, 0, none⟩) 2 2] 37)
                            have hnews := news_one (wr.alloc (.cells #[.int .i64 (i : Int), .int .i64 (j : Int)] 2)) 37 (.slice (some ⟨wr.heap.size, 0, none⟩) 2 2)
                            rw [hs1] at hnews
                            have HN := Lib.hid (⟨hv, bb, hgl, hgx, hxl⟩ : _ ∧ _ ∧ _ ∧ _ ∧ _)
                            have HOW := Lib.hid (⟨hownV, hnews⟩ : _ ∧ _)
                            clear hv hgl hgx hxl bb hs1 hownV hnews
                            go_wp2_with (at_builtin; refine wpList_append_lies _ rfl _ _ 22 rfl G 37 i0 (.slice none 0 0) 1 24 Try.underlying22 hi' z0 z1 z2 rfl (by decide) _ _ _ rfl HOW.out.1 ⟨wr.heap.size + 1, 0, none⟩ 1 1 [.slice (some ⟨wr.heap.size, 0, none⟩) 2 2] rfl rfl ?d1 ?d2 (by decide) ?d3 ?d4 ?d5 _ rfl ?_)
                            case d1 => exact HOW.out.2
                            case d2 => first | (intro u hu; simp at hu; subst hu; rfl) | rfl | simp
                            case d3 => unfold maxLen; omega
                            case d4 => omega
                            case d5 => have := HN.out.2.2.1; simp; omega
                            intro g4 c4 w4 hown3 hgr hlie hlt3
                            obtain ⟨hv, bb, hgl, hgx, hxl⟩ := HN.out
                            obtain ⟨hXe, hP, hI, _, _⟩ := HP.out
                            have hch := snocC bb hgr
                            have hgxx : x < g ∨ g + 1 ≤ x := by omega
                            have hP3 := copy_close hP hxl bb hv hown3 hgr (hlie.imp id (fun e => by rw [e]; simp)) (.slice (some ⟨g4, 0, none⟩) (m + 1) c4)
                            rw [← HST.out] at hP3
                            have y1 := hch.cell hI.x1 hgxx
                            have yf := hch.frozen (show x < wr.heap.size from hxl) hgxx hI.xf
                            have hI4 := hI.snoc (g4 := g4) (c4 := c4) (by have := HO.out; omega) (by have := HO.out; omega) hgxx hch
                            have HF := Lib.hid (⟨hP3, hI4⟩ : _ ∧ _)
                            clear hXe hP hI hv bb hgl hgx hxl hch hgxx hP3 hI4 hown3 hgr hlie hlt3 HOW e1 e2 e3 d1 d2 d3 x1 xf
                            go_wp2
                            go_roundw
                            case rel => exact ⟨u+1, m+1, g4, c4, _, _, by omega, by go_num, Lib.hid rfl, HF.out⟩
                            case measure => simp [intOf]; omega
                          · have hst := HKK.out.1 (by simp [f1, g1, g2])
                            have HST := Lib.hid (show unp (T i ++ I i j ++ K i j (u + 1)) = unp es ++ [[(i : Int), (j : Int)]] by rw [hst, HP.out.1, ← List.append_assoc, unp_snoc])
                            clear hst
                            have hgl := HP.out.2.1.lt
                            have hgx := HP.out.2.1.exg
                            have hxl := HP.out.2.2.1.xlt
                            have x1 := HP.out.2.2.1.x1
                            have xf := HP.out.2.2.1.xf
                            have hv := OwI.two (lo := wr.heap.size) (w := wr) (x := (i : Int)) (y := (j : Int)) (by unfold I64; omega) (by unfold I64; omega) (Nat.le_refl _)
                            have bb : Below wr.heap.size wr (wr.alloc (.cells #[.int .i64 (i : Int), .int .i64 (j : Int)] 2)) := (Below.refl _ _).alloc (Nat.le_refl _) _
                            have hs1 : (wr.alloc (.cells #[.int .i64 (i : Int), .int .i64 (j : Int)] 2)).heap.size = wr.heap.size + 1 := by simp
                            have hownV := (HP.out.2.1.below bb).out.alloc (.cells #[.slice (some ⟨wr.heap.size, 0, none⟩) 2 2] 37)
                            have hnews := news_one (wr.alloc (.cells #[.int .i64 (i : Int), .int .i64 (j : Int)] 2)) 37 (.slice (some ⟨wr.heap.size, 0, none⟩) 2 2)
                            rw [hs1] at hnews
                            have HN := Lib.hid (⟨hv, bb, hgl, hgx, hxl⟩ : _ ∧ _ ∧ _ ∧ _ ∧ _)
                            have HOW := Lib.hid (⟨hownV, hnews⟩ : _ ∧ _)
                            clear hv hgl hgx hxl bb hs1 hownV hnews
                            go_wp2_with (at_builtin; refine wpList_append_lies _ rfl _ _ 22 rfl G 37 i0 (.slice none 0 0) 1 24 Try.underlying22 hi' z0 z1 z2 rfl (by decide) _ _ _ rfl HOW.out.1 ⟨wr.heap.size + 1, 0, none⟩ 1 1 [.slice (some ⟨wr.heap.size, 0, none⟩) 2 2] rfl rfl ?d1 ?d2 (by decide) ?d3 ?d4 ?d5 _ rfl ?_)
                            case d1 => exact HOW.out.2
                            case d2 => first | (intro u hu; simp at hu; subst hu; rfl) | rfl | simp
                            case d3 => unfold maxLen; omega
                            case d4 => omega
                            case d5 => have := HN.out.2.2.1; simp; omega
                            intro g4 c4 w4 hown3 hgr hlie hlt3
                            obtain ⟨hv, bb, hgl, hgx, hxl⟩ := HN.out
                            obtain ⟨hXe, hP, hI, _, _⟩ := HP.out
                            have hch := snocC bb hgr
                            have hgxx : x < g ∨ g + 1 ≤ x := by omega
                            have hP3 := copy_close hP hxl bb hv hown3 hgr (hlie.imp id (fun e => by rw [e]; simp)) (.slice (some ⟨g4, 0, none⟩) (m + 1) c4)
                            rw [← HST.out] at hP3
                            have y1 := hch.cell hI.x1 hgxx
                            have yf := hch.frozen (show x < wr.heap.size from hxl) hgxx hI.xf
                            have hI4 := hI.snoc (g4 := g4) (c4 := c4) (by have := HO.out; omega) (by have := HO.out; omega) hgxx hch
                            have HF := Lib.hid (⟨hP3, hI4⟩ : _ ∧ _)
                            clear hXe hP hI hv bb hgl hgx hxl hch hgxx hP3 hI4 hown3 hgr hlie hlt3 HOW e1 e2 e3 d1 d2 d3 x1 xf
                            go_wp2
                            go_roundw
                            case rel => exact ⟨u+1, m+1, g4, c4, _, _, by omega, by go_num, Lib.hid rfl, HF.out⟩
                            case measure => simp [intOf]; omega
                          · have hst := HKK.out.2 (by simp [f1, g1, g2])
                            have HF := Lib.hid (⟨by rw [hst]; exact HP.out.1, HP.out.2.1, HP.out.2.2.1⟩ : es = T i ++ I i j ++ K i j (u + 1) ∧ _ ∧ _)
                            clear HP hst
                            go_wp2
                            go_roundw
                            case rel => exact ⟨u+1, m, g, cc, rvs, es, by omega, by go_num, Lib.hid HF.out.1, HF.out.2⟩
                            case measure => simp [intOf]; omega
                        · rcases hdyc with (g1 | ⟨g1, g2⟩) | ⟨g1, g2⟩
                          · have hst := HKK.out.1 (by simp [f1, f2, g1])
                            have HST := Lib.hid (show unp (T i ++ I i j ++ K i j (u + 1)) = unp es ++ [[(i : Int), (j : Int)]] by rw [hst, HP.out.1, ← List.append_assoc, unp_snoc])
                            clear hst
                            have hgl := HP.out.2.1.lt
                            have hgx := HP.out.2.1.exg
                            have hxl := HP.out.2.2.1.xlt
                            have x1 := HP.out.2.2.1.x1
                            have xf := HP.out.2.2.1.xf
                            have hv := OwI.two (lo := wr.heap.size) (w := wr) (x := (i : Int)) (y := (j : Int)) (by unfold I64; omega) (by unfold I64; omega) (Nat.le_refl _)
                            have bb : Below wr.heap.size wr (wr.alloc (.cells #[.int .i64 (i : Int), .int .i64 (j : Int)] 2)) := (Below.refl _ _).alloc (Nat.le_refl _) _
                            have hs1 : (wr.alloc (.cells #[.int .i64 (i : Int), .int .i64 (j : Int)] 2)).heap.size = wr.heap.size + 1 := by simp
                            have hownV := (HP.out.2.1.below bb).out.alloc (.cells #[.slice (some ⟨wr.heap.size, 0, none⟩) 2 2] 37)
                            have hnews := news_one (wr.alloc (.cells #[.int .i64 (i : Int), .int .i64 (j : Int)] 2)) 37 (.slice (some ⟨wr.heap.size, 0, none⟩) 2 2)
                            rw [hs1] at hnews
                            have HN := Lib.hid (⟨hv, bb, hgl, hgx, hxl⟩ : _ ∧ _ ∧ _ ∧ _ ∧ _)
                            have HOW := Lib.hid (⟨hownV, hnews⟩ : _ ∧ _)
                            clear hv hgl hgx hxl bb hs1 hownV hnews
                            go_wp2_with (at_builtin; refine wpList_append_lies _ rfl _ _ 22 rfl G 37 i0 (.slice none 0 0) 1 24 Try.underlying22 hi' z0 z1 z2 rfl (by decide) _ _ _ rfl HOW.out.1 ⟨wr.heap.size + 1, 0, none⟩ 1 1 [.slice (some ⟨wr.heap.size, 0, none⟩) 2 2] rfl rfl ?d1 ?d2 (by decide) ?d3 ?d4 ?d5 _ rfl ?_)
                            case d1 => exact HOW.out.2
                            case d2 => first | (intro u hu; simp at hu; subst hu; rfl) | rfl | simp
                            case d3 => unfold maxLen; omega
                            case d4 => omega
                            case d5 => have := HN.out.2.2.1; simp; omega
                            intro g4 c4 w4 hown3 hgr hlie hlt3
                            obtain ⟨hv, bb, hgl, hgx, hxl⟩ := HN.out
                            obtain ⟨hXe, hP, hI, _, _⟩ := HP.out
                            have hch := snocC bb hgr
                            have hgxx : x < g ∨ g + 1 ≤ x := by omega
                            have hP3 := copy_close hP hxl bb hv hown3 hgr (hlie.imp id (fun e => by rw [e]; simp)) (.slice (some ⟨g4, 0, none⟩) (m + 1) c4)
                            rw [← HST.out] at hP3
                            have y1 := hch.cell hI.x1 hgxx
                            have yf := hch.frozen (show x < wr.heap.size from hxl) hgxx hI.xf
                            have hI4 := hI.snoc (g4 := g4) (c4 := c4) (by have := HO.out; omega) (by have := HO.out; omega) hgxx hch
                            have HF := Lib.hid (⟨hP3, hI4⟩ : _ ∧ _)
                            clear hXe hP hI hv bb hgl hgx hxl hch hgxx hP3 hI4 hown3 hgr hlie hlt3 HOW e1 e2 e3 d1 d2 d3 x1 xf
                            go_wp2
                            go_roundw
                            case rel => exact ⟨u+1, m+1, g4, c4, _, _, by omega, by go_num, Lib.hid rfl, HF.out⟩
                            case measure => simp [intOf]; omega
                          · have hst := HKK.out.1 (by simp [f1, f2, g1, g2])
                            have HST := Lib.hid (show unp (T i ++ I i j ++ K i j (u + 1)) = unp es ++ [[(i : Int), (j : Int)]] by rw [hst, HP.out.1, ← List.append_assoc, unp_snoc])
                            clear hst
                            have hgl := HP.out.2.1.lt
                            have hgx := HP.out.2.1.exg
                            have hxl := HP.out.2.2.1.xlt
                            have x1 := HP.out.2.2.1.x1
                            have xf := HP.out.2.2.1.xf
                            have hv := OwI.two (lo := wr.heap.size) (w := wr) (x := (i : Int)) (y := (j : Int)) (by unfold I64; omega) (by unfold I64; omega) (Nat.le_refl _)
                            have bb : Below wr.heap.size wr (wr.alloc (.cells #[.int .i64 (i : Int), .int .i64 (j : Int)] 2)) := (Below.refl _ _).alloc (Nat.le_refl _) _
                            have hs1 : (wr.alloc (.cells #[.int .i64 (i : Int), .int .i64 (j : Int)] 2)).heap.size = wr.heap.size + 1 := by simp
                            have hownV := (HP.out.2.1.below bb).out.alloc (.cells #[.slice (some ⟨wr.heap.size, 0, none⟩) 2 2] 37)
                            have hnews := news_one (wr.alloc (.cells #[.int .i64 (i : Int), .int .i64 (j : Int)] 2)) 37 (.slice (some ⟨wr.heap.size, 0, none⟩) 2 2)
                            rw [hs1] at hnews
                            have HN := Lib.hid (⟨hv, bb, hgl, hgx, hxl⟩ : _ ∧ _ ∧ _ ∧ _ ∧ _)
                            have HOW := Lib.hid (⟨hownV, hnews⟩ : _ ∧ _)
                            clear hv hgl hgx hxl bb hs1 hownV hnews
                            go_wp2_with (at_builtin; refine wpList_append_lies _ rfl _ _ 22 rfl G 37 i0 (.slice none 0 0) 1 24 Try.underlying22 hi' z0 z1 z2 rfl (by decide) _ _ _ rfl HOW.out.1 ⟨wr.heap.size + 1, 0, none⟩ 1 1 [.slice (some ⟨wr.heap.size, 0, none⟩) 2 2] rfl rfl ?d1 ?d2 (by decide) ?d3 ?d4 ?d5 _ rfl ?_)
                            case d1 => exact HOW.out.2
                            case d2 => first | (intro u hu; simp at hu; subst hu; rfl) | rfl | simp
                            case d3 => unfold maxLen; omega
                            case d4 => omega
                            case d5 => have := HN.out.2.2.1; simp; omega
                            intro g4 c4 w4 hown3 hgr hlie hlt3
                            obtain ⟨hv, bb, hgl, hgx, hxl⟩ := HN.out
                            obtain ⟨hXe, hP, hI, _, _⟩ := HP.out
                            have hch := snocC bb hgr
                            have hgxx : x < g ∨ g + 1 ≤ x := by omega
                            have hP3 := copy_close hP hxl bb hv hown3 hgr (hlie.imp id (fun e => by rw [e]; simp)) (.slice (some ⟨g4, 0, none⟩) (m + 1) c4)
                            rw [← HST.out] at hP3
                            have y1 := hch.cell hI.x1 hgxx
                            have yf := hch.frozen (show x < wr.heap.size from hxl) hgxx hI.xf
                            have hI4 := hI.snoc (g4 := g4) (c4 := c4) (by have := HO.out; omega) (by have := HO.out; omega) hgxx hch
                            have HF := Lib.hid (⟨hP3, hI4⟩ : _ ∧ _)
                            clear hXe hP hI hv bb hgl hgx hxl hch hgxx hP3 hI4 hown3 hgr hlie hlt3 HOW e1 e2 e3 d1 d2 d3 x1 xf
                            go_wp2
                            go_roundw
                            case rel => exact ⟨u+1, m+1, g4, c4, _, _, by omega, by go_num, Lib.hid rfl, HF.out⟩
                            case measure => simp [intOf]; omega
                          · have hst := HKK.out.2 (by simp [f1, f2, g1, g2])
                            have HF := Lib.hid (⟨by rw [hst]; exact HP.out.1, HP.out.2.1, HP.out.2.2.1⟩ : es = T i ++ I i j ++ K i j (u + 1) ∧ _ ∧ _)
                            clear HP hst
                            go_wp2
                            go_roundw
                            case rel => exact ⟨u+1, m, g, cc, rvs, es, by omega, by go_num, Lib.hid HF.out.1, HF.out.2⟩
                            case measure => simp [intOf]; omega
                        · rcases hdyc with (g1 | ⟨g1, g2⟩) | ⟨g1, g2⟩
                          · have hst := HKK.out.2 (by simp [f1, f2, g1])
                            have HF := Lib.hid (⟨by rw [hst]; exact HP.out.1, HP.out.2.1, HP.out.2.2.1⟩ : es = T i ++ I i j ++ K i j (u + 1) ∧ _ ∧ _)
                            clear HP hst
                            go_wp2
                            go_roundw
                            case rel => exact ⟨u+1, m, g, cc, rvs, es, by omega, by go_num, Lib.hid HF.out.1, HF.out.2⟩
                            case measure => simp [intOf]; omega
                          · have hst := HKK.out.2 (by simp [f1, f2, g1, g2])
                            have HF := Lib.hid (⟨by rw [hst]; exact HP.out.1, HP.out.2.1, HP.out.2.2.1⟩ : es = T i ++ I i j ++ K i j (u + 1) ∧ _ ∧ _)
                            clear HP hst
                            go_wp2
                            go_roundw
                            case rel => exact ⟨u+1, m, g, cc, rvs, es, by omega, by go_num, Lib.hid HF.out.1, HF.out.2⟩
                            case measure => simp [intOf]; omega
                          · have hst := HKK.out.2 (by simp [f1, f2, g1, g2])
                            have HF := Lib.hid (⟨by rw [hst]; exact HP.out.1, HP.out.2.1, HP.out.2.2.1⟩ : es = T i ++ I i j ++ K i j (u + 1) ∧ _ ∧ _)
                            clear HP hst
                            go_wp2
                            go_roundw
                            case rel => exact ⟨u+1, m, g, cc, rvs, es, by omega, by go_num, Lib.hid HF.out.1, HF.out.2⟩
                            case measure => simp [intOf]; omega
                      · obtain rfl : u = S := by omega
                        have HP := Lib.hid (⟨by rw [HIS.out i j (by omega) hlj, ← List.append_assoc]; exact HX.out, hP, hI⟩ : es = T i ++ I i (j + 1) ∧ _ ∧ _)
                        clear HX hP hI
                        go_wp2
                        go_roundw
                        case rel => exact ⟨j+1, m, g, cc, rvs, es, by omega, by omega, by go_num, Lib.hid HP.out.1, HP.out.2⟩
                        case measure => simp [intOf]; omega
                  · obtain rfl : j = k := by omega
                    have HP := Lib.hid (⟨by rw [HT.out]; exact HX.out, hP, hI⟩ : es = T (i + 1) ∧ _ ∧ _)
                    clear HX hP hI
                    go_wp2
                    go_roundw
                    case rel => exact ⟨i+1, m, g, cc, rvs, es, by omega, by go_num, Lib.hid HP.out.1, HP.out.2⟩
                    case measure => simp [intOf]; omega
              · obtain rfl : i = k := by omega
                have hml : es.length = m := by have := hP.len; rw [unp_len] at this; exact this
                have hLe : es = L := by rw [HX.out, HLT.out]
                subst hLe
                have hm200 : m ≤ 200 := by rw [← hml, HX.out]; exact HTL.out i (Nat.le_refl _)
                have hI := hI
                obtain ⟨x0, x1, y0, y1, f0, f1, ylt, hB5, by0⟩ := (⟨hI.x0, hI.x1, hI.base.y0, hI.base.y1, hI.base.f0, hI.base.f1, hI.base.ylt, hI.base.below, hI.base.by0⟩ : _ ∧ _ ∧ _ ∧ _ ∧ _ ∧ _ ∧ _ ∧ _ ∧ _)
                have HBB := Lib.hid hB5
                obtain ⟨U, rfl⟩ : ∃ U, U = wr := ⟨_, rfl⟩
                by_cases h10 : m ≤ 10
                · have hb : decide ((10 : Int) < (m : Int)) = false := decide_eq_false (by omega)
                  have hR := HYS.out HNO.out ⟨h8, by omega⟩
                  subst hR
                  have hor := hP.owr' (by omega)
                  have hyG := HO.out
                  have hch : Chg y (y + 1) U ((U.setCell ⟨y, 0, none⟩ (.int .i64 (i : Int))).setCell ⟨y, 1, none⟩ (.slice (some ⟨g, 0, none⟩) m cc)) := by
                    repeat (refine Chg.setCell ?_ (by constructor <;> simp <;> omega) _)
                    exact Chg.refl _ _ _
                  have hP2 := hP.chg hch (.inr (by have := hP.lt; omega)) (fun j hj q hq => Or.inr (by have := ((hP.rows.own j (by rw [hP.len]; exact hj)).blk q hq).1; omega))
                  have hor2 := (hP2.owr' (by omega)).mono (show B ≤ G by omega) (Nat.le_refl _)
                  have HF := Lib.hid (⟨hor2, (show m = (unp es).length by rw [unp_len, hml])⟩ : _ ∧ _)
                  clear hP hI HX HTL hml hor hch hP2 hor2 hB5 HPQ HKL HKY HKN HIS HIL HI0 HK0 HT HT0 HLT HLM HYS HST
                  go_wp2
                  rw [← HBw.out]
                  refine bodyPost_ret (v := .tuple #[.agg #[.int .i64 (i : Int), .slice (some ⟨g, 0, none⟩) m cc], .int .i64 0]) (by simp [results, Try.results38, go_sem, y0, y1, f0, f1, x0, x1]) rfl ⟨some ⟨g, 0, none⟩, cc, by rw [HF.out.2], HF.out.1, ?_⟩
                  repeat (refine Below.setCell ?_ (by simp <;> omega) _)
                  exact HBB.out
                · have hb : decide ((10 : Int) < (m : Int)) = true := decide_eq_true (by omega)
                  have hR := HLM.out HNO.out (by omega)
                  subst hR
                  clear hP hI HX HTL hml hB5 HPQ HKL HKY HKN HIS HIL HI0 HK0 HT HT0 HLT HLM HYS HST
                  go_wp2
                  rw [← HBw.out]
                  refine bodyPost_ret (v := .tuple #[.agg #[.int .i64 0, .slice none 0 0], .int .i64 3]) (by simp [results, Try.results38, go_sem, y0, y1, f0, f1]) rfl ⟨none, 0, rfl, OwR.nil (World.ownsRow_nil _ _ _ _) (Nat.le_refl _), ?_⟩
                  repeat (refine Below.setCell ?_ (by simp <;> omega) _)
                  exact HBB.out
          · have h8b : decide ((8 : Int) < (k : Int)) = true := decide_eq_true (by omega)
            have hR := HLM.out hno (by omega)
            subst hR
            obtain ⟨y0, y1, f0, f1, ylt, hB5, by0⟩ := (⟨hI.y0, hI.y1, hI.f0, hI.f1, hI.ylt, hI.below, hI.by0⟩ : _ ∧ _ ∧ _ ∧ _ ∧ _ ∧ _ ∧ _)
            have HBB := Lib.hid hB5
            clear hI hB5 HLY HLN HPQ hno hlb
            go_wp2
            rw [← HBw.out]
            refine bodyPost_ret (v := .tuple #[.agg #[.int .i64 0, .slice none 0 0], .int .i64 3]) (by simp [results, Try.results38, go_sem, y0, y1, f0, f1]) rfl ⟨none, 0, rfl, OwR.nil (World.ownsRow_nil _ _ _ _) (Nat.le_refl _), ?_⟩
            repeat (refine Below.setCell ?_ (by simp <;> omega) _)
            exact HBB.out

end Go.Proofs.Ytebgbplhcaocoaa
