/- Quotients of sums, one after the other, by the program. -/
import Derived.Test.YtebgbplhcaocoaaImplMul
set_option linter.unusedSimpArgs false
set_option linter.unusedVariables false
set_option maxRecDepth 100000
namespace Go.Proofs.Ytebgbplhcaocoaa
open Go.RowKit

def quS (first : Int) (nx : Nat → List Int → Option Int) (dv : Nat → Int) : Nat → List Int × Int
  | 0 => ([first], 0)
  | k + 1 => if (quS first nx dv k).2 = 0 then (match nx (k + 1) (quS first nx dv k).1 with
    | none => ([], 3)
    | some s => if s.tmod (dv (k + 1)) = 0 then ((quS first nx dv k).1 ++ [s.tdiv (dv (k + 1))], 0) else ([], 4)) else quS first nx dv k
section
variable {first : Int} {nx : Nat → List Int → Option Int} {dv : Nat → Int}
theorem quS_lim {k : Nat} (h : (quS first nx dv k).2 = 0) (h2 : nx (k + 1) (quS first nx dv k).1 = none) : quS first nx dv (k + 1) = ([], 3) := by
  show (if _ then _ else _) = _
  rw [if_pos h, h2]
theorem quS_not {k : Nat} {s : Int} (h : (quS first nx dv k).2 = 0) (h2 : nx (k + 1) (quS first nx dv k).1 = some s) (h3 : ¬ s.tmod (dv (k + 1)) = 0) : quS first nx dv (k + 1) = ([], 4) := by
  show (if _ then _ else _) = _
  rw [if_pos h, h2]
  exact if_neg h3
theorem quS_yes {k : Nat} {s : Int} (h : (quS first nx dv k).2 = 0) (h2 : nx (k + 1) (quS first nx dv k).1 = some s) (h3 : s.tmod (dv (k + 1)) = 0) : quS first nx dv (k + 1) = ((quS first nx dv k).1 ++ [s.tdiv (dv (k + 1))], 0) := by
  show (if _ then _ else _) = _
  rw [if_pos h, h2]
  exact if_pos h3
theorem quS_stay {k : Nat} (h : ¬ (quS first nx dv k).2 = 0) : ∀ j, k ≤ j → quS first nx dv j = quS first nx dv k := by
  intro j hj
  induction j with
  | zero => obtain rfl : k = 0 := by omega
            rfl
  | succ j ih =>
    by_cases e : k = j + 1
    · subst e; rfl
    · have ih := ih (by omega)
      show (if _ then _ else _) = _
      rw [if_neg (by rw [ih]; exact h), ih]
theorem quS_len : ∀ k, (quS first nx dv k).2 = 0 → (quS first nx dv k).1.length = k + 1
  | 0, _ => rfl
  | k + 1, h => by
    by_cases h0 : (quS first nx dv k).2 = 0
    · cases h2 : nx (k + 1) (quS first nx dv k).1 with
      | none => rw [quS_lim h0 h2] at h; cases h
      | some s =>
        by_cases h3 : s.tmod (dv (k + 1)) = 0
        · rw [quS_yes h0 h2 h3]
          simp [quS_len k h0]
        · rw [quS_not h0 h2 h3] at h; cases h
    · exfalso
      have : quS first nx dv (k + 1) = quS first nx dv k := quS_stay h0 (k + 1) (by omega)
      rw [this] at h; exact h0 h
theorem tdiv_lim {s d : Int} (hs : Lim s) : Lim (s.tdiv d) := by
  have h : (s.tdiv d).natAbs ≤ s.natAbs := by rw [Int.natAbs_tdiv]; exact Nat.div_le_self _ _
  unfold Lim at *; omega
theorem quS_all (hf : Lim first) (hn : ∀ k l, OLim (nx k l)) : ∀ k, ∀ x ∈ (quS first nx dv k).1, Lim x
  | 0, x, h => by
    have : x = first := by simpa [quS] using h
    rw [this]; exact hf
  | k + 1, x, h => by
    have ih := quS_all hf hn k
    by_cases h0 : (quS first nx dv k).2 = 0
    · cases h2 : nx (k + 1) (quS first nx dv k).1 with
      | none => rw [quS_lim h0 h2] at h; simp at h
      | some s =>
        by_cases h3 : s.tmod (dv (k + 1)) = 0
        · rw [quS_yes h0 h2 h3] at h
          rcases List.mem_append.mp h with h | h
          · exact ih x h
          · simp at h; rw [h]; exact tdiv_lim (hn _ _ _ h2)
        · rw [quS_not h0 h2 h3] at h; simp at h
    · rw [quS_stay h0 (k + 1) (by omega)] at h; exact ih x h
end
theorem ownW_shape {w : World} {base e size n : Nat} {v : Value} {xs : List Value} (h : w.ownsRow base e size v n xs) : ∃ a c, v = .slice a n c := by
  rcases h.2 with ⟨rfl, h1⟩ | ⟨g, cap, cur, rfl, _⟩
  · exact ⟨none, 0, by rw [h1]⟩
  · exact ⟨_, _, rfl⟩
theorem timesO_back {s d : Int} (hs : Lim s) : timesO (some (s.tdiv d)) (some d) = some (s.tdiv d * d) := by
  have h : (s.tdiv d * d).natAbs ≤ s.natAbs := by
    rw [Int.natAbs_mul, Int.natAbs_tdiv]; exact Nat.div_mul_le_self _ _
  have hi : inW (s.tdiv d * d) = true := by unfold Lim at hs; unfold inW; simp; omega
  have hf : fits (s.tdiv d) d = true := hi
  simp [timesO, numO, hf, mk?, hi]
theorem back_eq {s d : Int} : s.tdiv d * d = s ↔ s.tmod d = 0 := by
  have := Int.mul_tdiv_add_tmod s d
  rw [Int.mul_comm d] at this
  omega
theorem news_ob (w : World) (t : TypeId) (x y : Value) : ∀ (j : Nat) (u : Value), [x, y][j]? = some u → (w.alloc (.cells #[x, y] t)).cell? (({ block := w.heap.size, off := 0 } : Addr).add j) = some u := by
  intro j u hj
  match j, hj with
  | 0, hj => simp at hj; subst hj; simp [Addr.add]
  | 1, hj => simp at hj; subst hj; simp [Addr.add]

set_option maxHeartbeats 8000000 in
theorem quotPo (C : Nat) (first : Int) (n : Nat) (nx : Nat → List Int → Option Int) (dv : Nat → Int) (w : World) (hn : n ≤ 24) (hfi : Lim first) (hdv : ∀ k, 1 ≤ k → k ≤ n → ¬ dv k = 0 ∧ -24 ≤ dv k ∧ dv k ≤ 24) (hnl : ∀ k l, OLim (nx k l))
    (hnx : ∀ k l (a : Option Addr) (c : Nat) W, Below w.heap.size w W → 1 ≤ k → k ≤ n → l.length = k → RdO W (.slice a k c) (l.map some) → Calls Try.prog 79 #[.int .i64 (k : Int), .slice a k c, .pointer (some ⟨C, 0, none⟩)] W fun e w' => e = .returned (.tuple #[.agg #[.int .i64 (numO (nx k l)), .bool (nx k l).isNone], .int .i64 (dv k)]) ∧ Below W.heap.size W w') :
    Calls Try.prog 74 #[.int .i64 first, .int .i64 n, .func (.func 79) #[] #[.pointer (some ⟨C, 0, none⟩)]] w fun e w' => ∃ v, e = .returned (.tuple #[v, .int .i64 (quS first nx dv n).2]) ∧ ((quS first nx dv n).2 = 0 → w'.ownsRow w.heap.size 73 2 v (n + 1) (flatO ((quS first nx dv n).1.map some))) ∧ (¬ (quS first nx dv n).2 = 0 → v = .slice none 0 0) ∧ Below w.heap.size w w' := by
  obtain ⟨i0, hi', z0, z1, z2⟩ := info_parts Try.info73
  have HNX := Lib.hid hnx
  have HDV := Lib.hid hdv
  have HNL := Lib.hid hnl
  have HLEN := Lib.hid (fun k => quS_len (first := first) (nx := nx) (dv := dv) k)
  have HALL := Lib.hid (fun k => quS_all (first := first) (nx := nx) (dv := dv) hfi hnl k)
  have HLI := Lib.hid (fun k h1 h2 => quS_lim (first := first) (nx := nx) (dv := dv) (k := k) h1 h2)
  have HNO := Lib.hid (fun k s h1 h2 h3 => quS_not (first := first) (nx := nx) (dv := dv) (k := k) (s := s) h1 h2 h3)
  have HYE := Lib.hid (fun k s h1 h2 h3 => quS_yes (first := first) (nx := nx) (dv := dv) (k := k) (s := s) h1 h2 h3)
  have HST := Lib.hid (fun k h => quS_stay (first := first) (nx := nx) (dv := dv) (k := k) h n)
  have HQ0 := Lib.hid (show quS first nx dv 0 = ([first], 0) from rfl)
  generalize quS first nx dv = Q at *
  have hst : ∀ x : Int, 0 ≤ (x : Int) ∨ x < 0 := fun x => by omega
  clear hnx hdv hnl hfi hst
  go_enter Try.func74, Try.ntmps74
  go_wp2
  go_loopw [9, 8] (fun i v wr => ∃ (k : Nat) (u : Value), k ≤ n ∧ i = .int .i64 ((k + 1 : Nat) : Int) ∧ u = v ∧ Hid ((Q k).2 = 0) ∧ wr.ownsRow w.heap.size 73 2 u (k + 1) (flatO ((Q k).1.map some)) ∧ Below w.heap.size w wr) (fun i _ _ => n + 1 - (intOf i).toNat)
  case atStart =>
    refine ⟨0, _, Nat.zero_le _, rfl, rfl, Lib.hid (by rw [HQ0.out]), ?_, (Below.refl _ _).alloc (Nat.le_refl _) _⟩
    rw [HQ0.out]
    exact World.ownsRow_lit w #[.int .i64 first, .bool false] 1 (Nat.le_refl _) (by unfold maxLen; omega) rfl
  case round =>
    obtain ⟨k, v, hk, rfl, rfl, HQ, hO, hB⟩ := hrel
    obtain ⟨K, hK⟩ : ∃ K, K = k + 1 := ⟨_, rfl⟩
    have HKK := Lib.hid hK
    rw [← hK] at hO ⊢
    by_cases hlt : k < n
    · have hKn : (K : Int) ≤ (n : Int) := by omega
      obtain ⟨L, hL⟩ : ∃ L, L = (Q k).1 := ⟨_, rfl⟩
      have hLl : L.length = K := by rw [hL, hK]; exact HLEN.out k HQ.out
      have hLa : ∀ x ∈ L, Lim x := by rw [hL]; exact HALL.out k
      rw [← hL] at hO
      have HLQ := Lib.hid hL
      obtain ⟨a, c, rfl⟩ := ownW_shape hO
      have hrd : RdO wr (.slice a K c) (L.map some) := RdO.mk hO (by rw [List.length_map]; exact hLl) (fun j => by
        by_cases h : j < L.length
        · have e : (L.map some).getD j (some 0) = some (L.getD j 0) := by simp [List.getD, List.getElem?_eq_getElem h]
          rw [e]
          have hm : L.getD j 0 ∈ L := by
            have : L.getD j 0 = L[j] := by simp [List.getD, List.getElem?_eq_getElem h]
            rw [this]; exact List.getElem_mem h
          exact OLim.some (hLa _ hm)
        · have e : (L.map some).getD j (some 0) = some 0 := by simp [List.getD, List.getElem?_eq_none (Nat.le_of_not_lt h)]
          rw [e]; exact OLim.some (by unfold Lim; omega))
      have hcall := HNX.out K L a c wr hB (by omega) (by omega) hLl hrd
      obtain ⟨hd0, hd1, hd2⟩ := HDV.out K (by omega) (by omega)
      obtain ⟨o, ho⟩ : ∃ o, o = nx K L := ⟨_, rfl⟩
      have hol : OLim o := by rw [ho]; exact HNL.out K L
      rw [← ho] at hcall
      have HNXQ : Hid (nx (k + 1) (Q k).1 = o) := Lib.hid (by rw [← hL, ← hK, ho])
      obtain ⟨d, hd⟩ : ∃ d, d = dv K := ⟨_, rfl⟩
      rw [← hd] at hcall hd0 hd1 hd2
      have HDK : Hid (dv (k + 1) = d) := Lib.hid (by rw [← hK, hd])
      have HO := Lib.hid (⟨hO, hB⟩ : _ ∧ _)
      have HCA := Lib.hid hcall
      have HOL := Lib.hid hol
      clear hO hB hcall hrd hL hLa hol ho hd hK hLl
      go_wp2_with fail
      refine HCA.out.mono ?_
      clear HCA
      rintro e w1 ⟨rfl, b1⟩
      have HO1 := Lib.hid (⟨ownsRow_chg HO.out.1 (b1.chg 0 0) (fun _ _ => .inr (Nat.zero_le _)), HO.out.2.next b1⟩ : _ ∧ _)
      clear b1 HO
      cases o with
      | none =>
        have hz := HLI.out k HQ.out HNXQ.out
        have hz2 : Q n = ([], 3) := by
          have := HST.out (k + 1) (by rw [hz]; decide) (by omega)
          rw [this, hz]
        have HZ := Lib.hid hz2
        clear hz hz2
        have hB1 := HO1.out.2
        go_wp2
        go_ret2
        exact ⟨.slice none 0 0, by rw [HZ.out]; rfl, fun h => (by rw [HZ.out] at h; cases h), fun _ => rfl, hB1.alloc hB1.size _⟩
      | some s =>
        have hs := HOL.out s rfl
        rw [show numO (some s) = s from rfl]
        obtain ⟨q, hq⟩ : ∃ q, q = s.tdiv d := ⟨_, rfl⟩
        have hql : Lim q := by rw [hq]; exact tdiv_lim hs
        obtain ⟨qd, hqd⟩ : ∃ x, x = q * d := ⟨_, rfl⟩
        have hiff : qd = s ↔ s.tmod d = 0 := by rw [hqd, hq]; exact back_eq
        have HTI := Lib.hid (fun W => show Calls Try.prog 129 #[.agg #[.int .i64 q, .bool false], .agg #[.int .i64 d, .bool false]] W fun e w' => e = .returned (.agg #[.int .i64 qd, .bool false]) ∧ Below W.heap.size W w' from by
          have h := wtimesA (some q) (some d) (OLim.some hql) (OLim.some (by unfold Lim; omega)) W
          rw [hq, timesO_back hs, ← hq, ← hqd] at h
          exact h)
        have HQQ := Lib.hid hq
        have HIF := Lib.hid hiff
        clear hq hqd hs hiff HOL
        obtain ⟨X, hX⟩ : ∃ X, X = w1.heap.size := ⟨_, rfl⟩
        obtain ⟨V, hV⟩ : ∃ V, V = (w1.alloc (.cells #[.int .i64 s, .bool false] 73)).alloc (.cells #[.int .i64 q, .bool false] 73) := ⟨_, rfl⟩
        have c0 : V.cell? ⟨X, 0, none⟩ = some (.int .i64 s) := by rw [hV, hX]; go_simp
        have c1 : V.cell? ⟨X, 1, none⟩ = some (.bool false) := by rw [hV, hX]; go_simp
        have c2 : V.cell? ⟨X + 1, 0, none⟩ = some (.int .i64 q) := by rw [hV, hX]; go_simp
        have c3 : V.cell? ⟨X + 1, 1, none⟩ = some (.bool false) := by rw [hV, hX]; go_simp
        have hbV : Below w1.heap.size w1 V := by rw [hV]; exact ((Below.refl _ _).alloc (Nat.le_refl _) _).alloc (by simp) _
        have HOV := Lib.hid (⟨ownsRow_chg HO1.out.1 (hbV.chg 0 0) (fun _ _ => .inr (Nat.zero_le _)), HO1.out.2.next hbV⟩ : _ ∧ _)
        have HVV := Lib.hid (⟨hV, hX⟩ : _ ∧ _)
        clear HO1 hbV hV hX
        have m1 : s.tdiv d = q := HQQ.out.symm
        have m2 : IntKind.i64.wrap q = q := IntWalk.i64_in _ (by unfold Lim at hql; omega)
        have m3 : wrap64 q = q := IntWalk.wrap64_in _ (by clear m2; unfold Lim at hql; omega)
        clear hql
        by_cases hyes : qd = s
        · have hb : (qd == s) = true := by simpa using hyes
          have HYS := Lib.hid hyes
          clear hyes
          go_wp2
          rw [← HVV.out.1, ← HVV.out.2]
          clear m1 m2 m3
          go_region_held3 (fun W' => W'.cell? ⟨X, 0, none⟩ = some (.int .i64 s) ∧ W'.cell? ⟨X, 1, none⟩ = some (.bool false) ∧ W'.cell? ⟨X + 1, 0, none⟩ = some (.int .i64 q) ∧ W'.cell? ⟨X + 1, 1, none⟩ = some (.bool false))
            (first | (exact ⟨c0, c1, c2, c3⟩) | (go_split_ands; exact ⟨b4.keep (by assumption), b4.keep (by assumption), b4.keep (by assumption), b4.keep (by assumption)⟩) | go_keep)
            (first | (go_at_call 129; refine (HTI.out _).mono ?_; rintro e w4 ⟨rfl, b4⟩; have bb := (((Qt.refl V).drew).below.next b4)))
          have c2' := bb.keep c2
          have c3' := bb.keep c3
          have HO4 := Lib.hid (⟨ownsRow_chg HOV.out.1 (bb.chg 0 0) (fun _ _ => .inr (Nat.zero_le _)), HOV.out.2.next bb⟩ : _ ∧ _)
          have htm := HIF.out.1 HYS.out
          have hz := HYE.out k s HQ.out HNXQ.out (by rw [HDK.out]; exact htm)
          rw [HDK.out, ← HQQ.out] at hz
          have HZ := Lib.hid hz
          clear htm hz bb c0 c1 c2 c3 HOV
          have hls : (flatO ((L ++ [q]).map some)) = flatO (L.map some) ++ [.int .i64 q, .bool false] := by rw [List.map_append]; exact flatO_snoc _ _
          have HLS := Lib.hid hls
          have c2d := c2'
          clear hls
          obtain ⟨hO4, hB4⟩ := HO4.out
          go_wp2_with (at_builtin; refine wpList_append_own _ rfl _ _ 68 rfl w.heap.size 73 i0 (.agg #[.int .i64 0, .bool false]) 2 16 Try.underlying68 hi' z0 z1 z2 rfl (by decide) _ _ _ rfl (hO4.alloc _) ⟨w4.heap.size, 0, none⟩ 1 1 [.int .i64 q, .bool false] rfl rfl ?d1 ?d2 ?d3 ?d4 ?d5 ?_)
          case d1 => exact news_ob _ _ _ _
          case d2 => intro u hu; simp at hu; rcases hu with rfl | rfl <;> rfl
          case d3 => unfold maxLen; omega
          case d4 => omega
          case d5 => have := hB4.size; simp; omega
          intro v3 w3 hown3 hgr _
          have hB5 : Below w.heap.size w w3 := (hB4.alloc hB4.size _).grown hgr (by have := hB4.size; simp; omega) (fun j hj => (hO4.lt j hj).1)
          have HF := Lib.hid (show (Q (k + 1)).2 = 0 ∧ w3.ownsRow w.heap.size 73 2 v3 (k + 1 + 1) (flatO ((Q (k + 1)).1.map some)) ∧ Below w.heap.size w w3 by
            rw [HZ.out]
            refine ⟨rfl, ?_, hB5⟩
            show w3.ownsRow _ _ _ v3 (k + 1 + 1) (flatO (((Q k).1 ++ [q]).map some))
            rw [← HLQ.out, HLS.out, ← HKK.out]
            exact hown3)
          clear hown3 hgr hB5 hO4 hB4 c2d c2' c3'
          go_wp2
          go_roundw
          case rel => exact ⟨k + 1, v3, by omega, by rw [HKK.out]; go_num, rfl, Lib.hid HF.out.1, HF.out.2⟩
          case measure => rw [HKK.out]; simp [intOf]; omega
        · have hb : (qd == s) = false := by simpa using hyes
          have HYS := Lib.hid hyes
          clear hyes
          go_wp2
          rw [← HVV.out.1, ← HVV.out.2]
          clear m1 m2 m3
          go_region_held3 (fun W' => W'.cell? ⟨X, 0, none⟩ = some (.int .i64 s) ∧ W'.cell? ⟨X, 1, none⟩ = some (.bool false) ∧ W'.cell? ⟨X + 1, 0, none⟩ = some (.int .i64 q) ∧ W'.cell? ⟨X + 1, 1, none⟩ = some (.bool false))
            (first | (exact ⟨c0, c1, c2, c3⟩) | (go_split_ands; exact ⟨b4.keep (by assumption), b4.keep (by assumption), b4.keep (by assumption), b4.keep (by assumption)⟩) | go_keep)
            (first | (go_at_call 129; refine (HTI.out _).mono ?_; rintro e w4 ⟨rfl, b4⟩; have bb := (((Qt.refl V).drew).below.next b4)))
          have c2' := bb.keep c2
          have c3' := bb.keep c3
          have HO4 := Lib.hid (⟨ownsRow_chg HOV.out.1 (bb.chg 0 0) (fun _ _ => .inr (Nat.zero_le _)), HOV.out.2.next bb⟩ : _ ∧ _)
          have htm : ¬ s.tmod d = 0 := fun e => HYS.out (HIF.out.2 e)
          have hz := HNO.out k s HQ.out HNXQ.out (by rw [HDK.out]; exact htm)
          have hz2 : Q n = ([], 4) := by
            have := HST.out (k + 1) (by rw [hz]; decide) (by omega)
            rw [this, hz]
          have HZ := Lib.hid hz2
          clear htm hz hz2 bb c0 c1 c2 c3 HOV
          go_wp2
          go_ret2
          exact ⟨.slice none 0 0, by rw [HZ.out]; rfl, fun h => (by rw [HZ.out] at h; cases h), fun _ => rfl, HO4.out.2⟩
    · obtain rfl : k = n := by omega
      have hno : ¬ (K : Int) ≤ (k : Int) := by rw [HKK.out]; omega
      have HF := Lib.hid (⟨hO, hB⟩ : _ ∧ _)
      clear hO hB
      go_wp2
      go_ret2
      exact ⟨v, by rw [HQ.out]; rfl, fun _ => by rw [← HKK.out]; exact HF.out.1, fun h => absurd HQ.out h, HF.out.2⟩

set_option maxHeartbeats 8000000 in
theorem quotPr (C : Nat) (first : Int) (n : Nat) (nx : Nat → List Int → Option Int) (dv : Nat → Int) (w : World) (hn : n ≤ 24) (hfi : Lim first) (hdv : ∀ k, 1 ≤ k → k ≤ n → ¬ dv k = 0 ∧ -24 ≤ dv k ∧ dv k ≤ 24) (hnl : ∀ k l, OLim (nx k l))
    (hnx : ∀ k l (a : Option Addr) (c : Nat) W, Below w.heap.size w W → 1 ≤ k → k ≤ n → l.length = k → RdO W (.slice a k c) (l.map some) → Calls Try.prog 75 #[.int .i64 (k : Int), .slice a k c, .pointer (some ⟨C, 0, none⟩)] W fun e w' => e = .returned (.tuple #[.agg #[.int .i64 (numO (nx k l)), .bool (nx k l).isNone], .int .i64 (dv k)]) ∧ Below W.heap.size W w') :
    Calls Try.prog 74 #[.int .i64 first, .int .i64 n, .func (.func 75) #[] #[.pointer (some ⟨C, 0, none⟩)]] w fun e w' => ∃ v, e = .returned (.tuple #[v, .int .i64 (quS first nx dv n).2]) ∧ ((quS first nx dv n).2 = 0 → w'.ownsRow w.heap.size 73 2 v (n + 1) (flatO ((quS first nx dv n).1.map some))) ∧ (¬ (quS first nx dv n).2 = 0 → v = .slice none 0 0) ∧ Below w.heap.size w w' := by
  obtain ⟨i0, hi', z0, z1, z2⟩ := info_parts Try.info73
  have HNX := Lib.hid hnx
  have HDV := Lib.hid hdv
  have HNL := Lib.hid hnl
  have HLEN := Lib.hid (fun k => quS_len (first := first) (nx := nx) (dv := dv) k)
  have HALL := Lib.hid (fun k => quS_all (first := first) (nx := nx) (dv := dv) hfi hnl k)
  have HLI := Lib.hid (fun k h1 h2 => quS_lim (first := first) (nx := nx) (dv := dv) (k := k) h1 h2)
  have HNO := Lib.hid (fun k s h1 h2 h3 => quS_not (first := first) (nx := nx) (dv := dv) (k := k) (s := s) h1 h2 h3)
  have HYE := Lib.hid (fun k s h1 h2 h3 => quS_yes (first := first) (nx := nx) (dv := dv) (k := k) (s := s) h1 h2 h3)
  have HST := Lib.hid (fun k h => quS_stay (first := first) (nx := nx) (dv := dv) (k := k) h n)
  have HQ0 := Lib.hid (show quS first nx dv 0 = ([first], 0) from rfl)
  generalize quS first nx dv = Q at *
  have hst : ∀ x : Int, 0 ≤ (x : Int) ∨ x < 0 := fun x => by omega
  clear hnx hdv hnl hfi hst
  go_enter Try.func74, Try.ntmps74
  go_wp2
  go_loopw [9, 8] (fun i v wr => ∃ (k : Nat) (u : Value), k ≤ n ∧ i = .int .i64 ((k + 1 : Nat) : Int) ∧ u = v ∧ Hid ((Q k).2 = 0) ∧ wr.ownsRow w.heap.size 73 2 u (k + 1) (flatO ((Q k).1.map some)) ∧ Below w.heap.size w wr) (fun i _ _ => n + 1 - (intOf i).toNat)
  case atStart =>
    refine ⟨0, _, Nat.zero_le _, rfl, rfl, Lib.hid (by rw [HQ0.out]), ?_, (Below.refl _ _).alloc (Nat.le_refl _) _⟩
    rw [HQ0.out]
    exact World.ownsRow_lit w #[.int .i64 first, .bool false] 1 (Nat.le_refl _) (by unfold maxLen; omega) rfl
  case round =>
    obtain ⟨k, v, hk, rfl, rfl, HQ, hO, hB⟩ := hrel
    obtain ⟨K, hK⟩ : ∃ K, K = k + 1 := ⟨_, rfl⟩
    have HKK := Lib.hid hK
    rw [← hK] at hO ⊢
    by_cases hlt : k < n
    · have hKn : (K : Int) ≤ (n : Int) := by omega
      obtain ⟨L, hL⟩ : ∃ L, L = (Q k).1 := ⟨_, rfl⟩
      have hLl : L.length = K := by rw [hL, hK]; exact HLEN.out k HQ.out
      have hLa : ∀ x ∈ L, Lim x := by rw [hL]; exact HALL.out k
      rw [← hL] at hO
      have HLQ := Lib.hid hL
      obtain ⟨a, c, rfl⟩ := ownW_shape hO
      have hrd : RdO wr (.slice a K c) (L.map some) := RdO.mk hO (by rw [List.length_map]; exact hLl) (fun j => by
        by_cases h : j < L.length
        · have e : (L.map some).getD j (some 0) = some (L.getD j 0) := by simp [List.getD, List.getElem?_eq_getElem h]
          rw [e]
          have hm : L.getD j 0 ∈ L := by
            have : L.getD j 0 = L[j] := by simp [List.getD, List.getElem?_eq_getElem h]
            rw [this]; exact List.getElem_mem h
          exact OLim.some (hLa _ hm)
        · have e : (L.map some).getD j (some 0) = some 0 := by simp [List.getD, List.getElem?_eq_none (Nat.le_of_not_lt h)]
          rw [e]; exact OLim.some (by unfold Lim; omega))
      have hcall := HNX.out K L a c wr hB (by omega) (by omega) hLl hrd
      obtain ⟨hd0, hd1, hd2⟩ := HDV.out K (by omega) (by omega)
      obtain ⟨o, ho⟩ : ∃ o, o = nx K L := ⟨_, rfl⟩
      have hol : OLim o := by rw [ho]; exact HNL.out K L
      rw [← ho] at hcall
      have HNXQ : Hid (nx (k + 1) (Q k).1 = o) := Lib.hid (by rw [← hL, ← hK, ho])
      obtain ⟨d, hd⟩ : ∃ d, d = dv K := ⟨_, rfl⟩
      rw [← hd] at hcall hd0 hd1 hd2
      have HDK : Hid (dv (k + 1) = d) := Lib.hid (by rw [← hK, hd])
      have HO := Lib.hid (⟨hO, hB⟩ : _ ∧ _)
      have HCA := Lib.hid hcall
      have HOL := Lib.hid hol
      clear hO hB hcall hrd hL hLa hol ho hd hK hLl
      go_wp2_with fail
      refine HCA.out.mono ?_
      clear HCA
      rintro e w1 ⟨rfl, b1⟩
      have HO1 := Lib.hid (⟨ownsRow_chg HO.out.1 (b1.chg 0 0) (fun _ _ => .inr (Nat.zero_le _)), HO.out.2.next b1⟩ : _ ∧ _)
      clear b1 HO
      cases o with
      | none =>
        have hz := HLI.out k HQ.out HNXQ.out
        have hz2 : Q n = ([], 3) := by
          have := HST.out (k + 1) (by rw [hz]; decide) (by omega)
          rw [this, hz]
        have HZ := Lib.hid hz2
        clear hz hz2
        have hB1 := HO1.out.2
        go_wp2
        go_ret2
        exact ⟨.slice none 0 0, by rw [HZ.out]; rfl, fun h => (by rw [HZ.out] at h; cases h), fun _ => rfl, hB1.alloc hB1.size _⟩
      | some s =>
        have hs := HOL.out s rfl
        rw [show numO (some s) = s from rfl]
        obtain ⟨q, hq⟩ : ∃ q, q = s.tdiv d := ⟨_, rfl⟩
        have hql : Lim q := by rw [hq]; exact tdiv_lim hs
        obtain ⟨qd, hqd⟩ : ∃ x, x = q * d := ⟨_, rfl⟩
        have hiff : qd = s ↔ s.tmod d = 0 := by rw [hqd, hq]; exact back_eq
        have HTI := Lib.hid (fun W => show Calls Try.prog 129 #[.agg #[.int .i64 q, .bool false], .agg #[.int .i64 d, .bool false]] W fun e w' => e = .returned (.agg #[.int .i64 qd, .bool false]) ∧ Below W.heap.size W w' from by
          have h := wtimesA (some q) (some d) (OLim.some hql) (OLim.some (by unfold Lim; omega)) W
          rw [hq, timesO_back hs, ← hq, ← hqd] at h
          exact h)
        have HQQ := Lib.hid hq
        have HIF := Lib.hid hiff
        clear hq hqd hs hiff HOL
        obtain ⟨X, hX⟩ : ∃ X, X = w1.heap.size := ⟨_, rfl⟩
        obtain ⟨V, hV⟩ : ∃ V, V = (w1.alloc (.cells #[.int .i64 s, .bool false] 73)).alloc (.cells #[.int .i64 q, .bool false] 73) := ⟨_, rfl⟩
        have c0 : V.cell? ⟨X, 0, none⟩ = some (.int .i64 s) := by rw [hV, hX]; go_simp
        have c1 : V.cell? ⟨X, 1, none⟩ = some (.bool false) := by rw [hV, hX]; go_simp
        have c2 : V.cell? ⟨X + 1, 0, none⟩ = some (.int .i64 q) := by rw [hV, hX]; go_simp
        have c3 : V.cell? ⟨X + 1, 1, none⟩ = some (.bool false) := by rw [hV, hX]; go_simp
        have hbV : Below w1.heap.size w1 V := by rw [hV]; exact ((Below.refl _ _).alloc (Nat.le_refl _) _).alloc (by simp) _
        have HOV := Lib.hid (⟨ownsRow_chg HO1.out.1 (hbV.chg 0 0) (fun _ _ => .inr (Nat.zero_le _)), HO1.out.2.next hbV⟩ : _ ∧ _)
        have HVV := Lib.hid (⟨hV, hX⟩ : _ ∧ _)
        clear HO1 hbV hV hX
        have m1 : s.tdiv d = q := HQQ.out.symm
        have m2 : IntKind.i64.wrap q = q := IntWalk.i64_in _ (by unfold Lim at hql; omega)
        have m3 : wrap64 q = q := IntWalk.wrap64_in _ (by clear m2; unfold Lim at hql; omega)
        clear hql
        by_cases hyes : qd = s
        · have hb : (qd == s) = true := by simpa using hyes
          have HYS := Lib.hid hyes
          clear hyes
          go_wp2
          rw [← HVV.out.1, ← HVV.out.2]
          clear m1 m2 m3
          go_region_held3 (fun W' => W'.cell? ⟨X, 0, none⟩ = some (.int .i64 s) ∧ W'.cell? ⟨X, 1, none⟩ = some (.bool false) ∧ W'.cell? ⟨X + 1, 0, none⟩ = some (.int .i64 q) ∧ W'.cell? ⟨X + 1, 1, none⟩ = some (.bool false))
            (first | (exact ⟨c0, c1, c2, c3⟩) | (go_split_ands; exact ⟨b4.keep (by assumption), b4.keep (by assumption), b4.keep (by assumption), b4.keep (by assumption)⟩) | go_keep)
            (first | (go_at_call 129; refine (HTI.out _).mono ?_; rintro e w4 ⟨rfl, b4⟩; have bb := (((Qt.refl V).drew).below.next b4)))
          have c2' := bb.keep c2
          have c3' := bb.keep c3
          have HO4 := Lib.hid (⟨ownsRow_chg HOV.out.1 (bb.chg 0 0) (fun _ _ => .inr (Nat.zero_le _)), HOV.out.2.next bb⟩ : _ ∧ _)
          have htm := HIF.out.1 HYS.out
          have hz := HYE.out k s HQ.out HNXQ.out (by rw [HDK.out]; exact htm)
          rw [HDK.out, ← HQQ.out] at hz
          have HZ := Lib.hid hz
          clear htm hz bb c0 c1 c2 c3 HOV
          have hls : (flatO ((L ++ [q]).map some)) = flatO (L.map some) ++ [.int .i64 q, .bool false] := by rw [List.map_append]; exact flatO_snoc _ _
          have HLS := Lib.hid hls
          have c2d := c2'
          clear hls
          obtain ⟨hO4, hB4⟩ := HO4.out
          go_wp2_with (at_builtin; refine wpList_append_own _ rfl _ _ 68 rfl w.heap.size 73 i0 (.agg #[.int .i64 0, .bool false]) 2 16 Try.underlying68 hi' z0 z1 z2 rfl (by decide) _ _ _ rfl (hO4.alloc _) ⟨w4.heap.size, 0, none⟩ 1 1 [.int .i64 q, .bool false] rfl rfl ?d1 ?d2 ?d3 ?d4 ?d5 ?_)
          case d1 => exact news_ob _ _ _ _
          case d2 => intro u hu; simp at hu; rcases hu with rfl | rfl <;> rfl
          case d3 => unfold maxLen; omega
          case d4 => omega
          case d5 => have := hB4.size; simp; omega
          intro v3 w3 hown3 hgr _
          have hB5 : Below w.heap.size w w3 := (hB4.alloc hB4.size _).grown hgr (by have := hB4.size; simp; omega) (fun j hj => (hO4.lt j hj).1)
          have HF := Lib.hid (show (Q (k + 1)).2 = 0 ∧ w3.ownsRow w.heap.size 73 2 v3 (k + 1 + 1) (flatO ((Q (k + 1)).1.map some)) ∧ Below w.heap.size w w3 by
            rw [HZ.out]
            refine ⟨rfl, ?_, hB5⟩
            show w3.ownsRow _ _ _ v3 (k + 1 + 1) (flatO (((Q k).1 ++ [q]).map some))
            rw [← HLQ.out, HLS.out, ← HKK.out]
            exact hown3)
          clear hown3 hgr hB5 hO4 hB4 c2d c2' c3'
          go_wp2
          go_roundw
          case rel => exact ⟨k + 1, v3, by omega, by rw [HKK.out]; go_num, rfl, Lib.hid HF.out.1, HF.out.2⟩
          case measure => rw [HKK.out]; simp [intOf]; omega
        · have hb : (qd == s) = false := by simpa using hyes
          have HYS := Lib.hid hyes
          clear hyes
          go_wp2
          rw [← HVV.out.1, ← HVV.out.2]
          clear m1 m2 m3
          go_region_held3 (fun W' => W'.cell? ⟨X, 0, none⟩ = some (.int .i64 s) ∧ W'.cell? ⟨X, 1, none⟩ = some (.bool false) ∧ W'.cell? ⟨X + 1, 0, none⟩ = some (.int .i64 q) ∧ W'.cell? ⟨X + 1, 1, none⟩ = some (.bool false))
            (first | (exact ⟨c0, c1, c2, c3⟩) | (go_split_ands; exact ⟨b4.keep (by assumption), b4.keep (by assumption), b4.keep (by assumption), b4.keep (by assumption)⟩) | go_keep)
            (first | (go_at_call 129; refine (HTI.out _).mono ?_; rintro e w4 ⟨rfl, b4⟩; have bb := (((Qt.refl V).drew).below.next b4)))
          have c2' := bb.keep c2
          have c3' := bb.keep c3
          have HO4 := Lib.hid (⟨ownsRow_chg HOV.out.1 (bb.chg 0 0) (fun _ _ => .inr (Nat.zero_le _)), HOV.out.2.next bb⟩ : _ ∧ _)
          have htm : ¬ s.tmod d = 0 := fun e => HYS.out (HIF.out.2 e)
          have hz := HNO.out k s HQ.out HNXQ.out (by rw [HDK.out]; exact htm)
          have hz2 : Q n = ([], 4) := by
            have := HST.out (k + 1) (by rw [hz]; decide) (by omega)
            rw [this, hz]
          have HZ := Lib.hid hz2
          clear htm hz hz2 bb c0 c1 c2 c3 HOV
          go_wp2
          go_ret2
          exact ⟨.slice none 0 0, by rw [HZ.out]; rfl, fun h => (by rw [HZ.out] at h; cases h), fun _ => rfl, HO4.out.2⟩
    · obtain rfl : k = n := by omega
      have hno : ¬ (K : Int) ≤ (k : Int) := by rw [HKK.out]; omega
      have HF := Lib.hid (⟨hO, hB⟩ : _ ∧ _)
      clear hO hB
      go_wp2
      go_ret2
      exact ⟨v, by rw [HQ.out]; rfl, fun _ => by rw [← HKK.out]; exact HF.out.1, fun h => absurd HQ.out h, HF.out.2⟩

end Go.Proofs.Ytebgbplhcaocoaa
