/- The program's way to a determinant (Faddeev, LeVerrier). -/
import Derived.Test.YtnblhkhdilkbeaaDetB
import Derived.Test.YtnblhkhdilkbeaaCoreG
import Derived.Test.YtnblhkhdilkbeaaWz
import Derived.StillTailTactics
set_option linter.unusedSimpArgs false
set_option linter.unusedVariables false
set_option maxRecDepth 100000
namespace Go.Proofs.Ytnblhkhdilkbeaa
open Go.RowKit

/-- the determinant's numbers, from that at u^0 on -/
def dkL (A : Nat → Nat → Int) (n : Nat) : List Int := (List.range (n + 1)).map (dk A n)
def dkT (A : Nat → Nat → Int) (n k : Nat) : List Int := (List.range (k + 1)).map (dk A n)
theorem dkT_len (A : Nat → Nat → Int) (n k : Nat) : (dkT A n k).length = k + 1 := by simp [dkT]
theorem dkT_get {A : Nat → Nat → Int} {n k j : Nat} (h : j < k + 1) : (dkT A n k).getD j 0 = dk A n j := by simp [dkT, List.getD, h]
theorem dkT_s (A : Nat → Nat → Int) (n k : Nat) : dkT A n (k + 1) = dkT A n k ++ [dk A n (k + 1)] := by
  unfold dkT
  rw [List.range_succ (n := k + 1), List.map_append]; rfl
theorem dkT_I64 {A : Nat → Nat → Int} {n : Nat} (h : fits A n) {k : Nat} (hk : k ≤ n) : ∀ x ∈ dkT A n k, I64 x := fun x hx => by
  unfold dkT at hx
  obtain ⟨j, hj, rfl⟩ := List.mem_map.mp hx
  exact fits_I64 h (by have : j < k + 1 := by simpa using hj
                       omega)

/-- the diagonal done up to a row -/
def dgS (S : Nat → Nat → Int) (c : Int) (q : Nat) : Nat → Nat → Int := fun i j => if i = j ∧ i < q then wrap64 (S i j + c) else S i j
theorem dgS_0 (S : Nat → Nat → Int) (c : Int) : dgS S c 0 = S := by funext i j; simp [dgS]
theorem dgS_at (S : Nat → Nat → Int) (c : Int) (q : Nat) : dgS S c q q q = S q q := by simp [dgS]
theorem dgS_put (S : Nat → Nat → Int) (c : Int) (q : Nat) : put (dgS S c q) q q (wrap64 (S q q + c)) = dgS S c (q + 1) := by
  funext i j
  unfold put dgS
  by_cases h : i = q ∧ j = q
  · obtain ⟨rfl, rfl⟩ := h; simp
  · rw [if_neg h]
    by_cases h2 : i = j ∧ i < q
    · rw [if_pos h2, if_pos ⟨h2.1, by omega⟩]
    · rw [if_neg h2, if_neg (by omega)]
theorem dgS_n (S : Nat → Nat → Int) (c : Int) (n : Nat) : tab n (dgS S c n) = tab n (addD S c) := by
  refine tab_congr fun i j hi hj => ?_
  unfold dgS addD
  by_cases h : i = j
  · rw [if_pos ⟨h, hi⟩, if_pos h]
  · rw [if_neg (fun x => h x.1), if_neg h]

/-- what the steps keep -/
structure flI (w : World) (n : Nat) (A : Nat → Nat → Int) (k : Nat) (W : World) (g cg : Nat) (sa : Option Addr) (cs L H : Nat) : Prop where
  own : W.ownsRow w.heap.size 2 1 (.slice (some ⟨g, 0, none⟩) (k + 1) cg) (k + 1) ((dkT A n k).map (Value.int .i64))
  st : OwR L H W (.slice sa n cs) (tab n (flP n A k).1)
  sep : g < L ∨ H ≤ g
  below : Below w.heap.size w W
  base : w.heap.size ≤ L
  top : H ≤ W.heap.size

set_option maxHeartbeats 6400000 in
theorem detPoly {lo hi : Nat} (n : Nat) (A : Nat → Nat → Int) (a : Option Addr) (c : Nat) (w : World) (h : RdR lo hi w (.slice a n c) (tab n A)) (hn : n ≤ 20) (hf : fits A n) :
    Calls Try.prog 148 #[.slice a n c] w fun e w' => ∃ a' c', e = .returned (.slice a' (trim (dkL A n)).length c') ∧ OwI w.heap.size w'.heap.size w' (.slice a' (trim (dkL A n)).length c') (trim (dkL A n)) ∧ Below w.heap.size w w' := by
  obtain ⟨i0, hi', z0, z1, z2⟩ := info_parts Try.info2
  have HR := Lib.hid (fun W (hB : Below w.heap.size w W) => h.below hB)
  have HFL := Lib.hid (flP_dk n A hf)
  have HF := Lib.hid hf
  clear h hf
  have hl0 := World.ownsRow_lit (base := w.heap.size) (e := 2) (size := 1) w #[.int .i64 1] 1 (Nat.le_refl _) (by unfold maxLen; omega) rfl
  have hA0 : Below w.heap.size w (w.alloc (.cells #[.int .i64 1] 2)) := (Below.refl _ _).alloc (Nat.le_refl _) _
  have HS := Lib.hid (⟨hl0, hA0, by simp⟩ : (w.alloc (.cells #[.int .i64 1] 2)).ownsRow w.heap.size 2 1 (.slice (some ⟨w.heap.size, 0, none⟩) 1 1) 1 [.int .i64 1] ∧ _ ∧ (w.alloc (.cells #[.int .i64 1] 2)).heap.size = w.heap.size + 1)
  clear hl0 hA0
  go_enter Try.func148, Try.ntmps148
  go_wp2_with fail
  obtain ⟨V0, hV0⟩ : ∃ V, V = w.alloc (.cells #[.int .i64 1] 2) := ⟨_, rfl⟩
  rw [← hV0] at HS ⊢
  clear hV0
  obtain ⟨Y, hY⟩ : ∃ Y, Y = w.heap.size := ⟨_, rfl⟩
  refine (zeroRows n V0 (by omega) (.inr (by rw [HS.out.2.2]; omega))).mono ?_
  rintro e w1 ⟨v, rfl, o1, b1⟩
  obtain ⟨sa, cs, rfl⟩ := o1.rd.shape
  rw [tab_len] at o1 ⊢
  have H0 := Lib.hid (show flI w n A 0 w1 w.heap.size 1 sa cs V0.heap.size w1.heap.size from ⟨by
    have := ownsRow_chg HS.out.1 (b1.chg 0 0) (fun _ _ => .inr (Nat.zero_le _))
    have e1 : (dkT A n 0).map (Value.int .i64) = [.int .i64 1] := by simp [dkT, dk_0]
    rw [e1]; exact this, o1, .inl (by rw [HS.out.2.2]; omega), HS.out.2.1.next b1, by rw [HS.out.2.2]; omega, Nat.le_refl _⟩)
  rw [← hY] at *
  clear o1 b1 HS hY
  go_wp2
  go_loopw [3, 4, 13] (fun d st v wr => ∃ (k g cg : Nat) (sa : Option Addr) (cs L H : Nat), k ≤ n ∧ v = .int .i64 k ∧ d = .slice (some ⟨g, 0, none⟩) (k + 1) cg ∧ st = .slice sa n cs ∧ flI w n A k wr g cg sa cs L H) (fun _ _ v _ => n - (intOf v).toNat)
  case atStart => exact ⟨0, Y, 1, sa, cs, _, _, Nat.zero_le _, rfl, rfl, rfl, H0.out⟩
  case round =>
    clear H0
    obtain ⟨k, g, cg, sa, cs, L, H, hk, rfl, rfl, rfl, hI⟩ := hrel
    obtain ⟨U, rfl⟩ : ∃ U, U = wr := ⟨_, rfl⟩
    have HI := Lib.hid hI
    clear hI
    by_cases hlk : k < n
    · have HS0 := Lib.hid (show OwR L H U (.slice sa n cs) (tab n (dgS (flP n A k).1 (dk A n k) 0)) from by rw [dgS_0]; exact HI.out.st)
      go_wp2
      go_loopw [18] (fun v wr => ∃ q : Nat, q ≤ n ∧ v = .int .i64 q ∧ OwR L H wr (.slice sa n cs) (tab n (dgS (flP n A k).1 (dk A n k) q)) ∧ Chg L H U wr) (fun v _ => n - (intOf v).toNat)
      case atStart => exact ⟨0, Nat.zero_le _, rfl, HS0.out, Chg.refl _ _ _⟩
      case round =>
        rename_i hrel
        clear HS0
        obtain ⟨q, hq, rfl, hO, hC⟩ := hrel
        by_cases hlq : q < n
        · obtain ⟨gs, b, cc, rfl, g1, g2, g3, g4, g5, g6, g7⟩ := (hO.qt ((Qt.refl wr).drew)).ent (i := q) (j := q) hlq hlq
          have c0 := (RdL.own HI.out.own) k (by rw [dkT_len]; omega)
          rw [dkT_get (by omega)] at c0
          have c1 := hC.cell c0 (by exact HI.out.sep)
          rw [dgS_at] at g2
          have hst := dgS_put (flP n A k).1 (dk A n k) q
          generalize (flP n A k).1 q q = x at g2 hst
          generalize dk A n k = y at c1 hst g7 ⊢
          obtain ⟨s, hs⟩ : ∃ s, s = wrap64 (x + y) := ⟨_, rfl⟩
          rw [← hs] at hst
          have t2 : IntKind.i64.wrap (x + y) = s := by rw [IntWalk.i64_left, hs]
          have t4 : wrap64 (x + y) = s := hs.symm
          have hsI : I64 s := by rw [hs]; exact wrap_I64 _
          have hfin := g7 s hsI
          rw [hst] at hfin
          have HFF := Lib.hid (⟨hfin, (hC.trans ((Qt.refl wr).drew.below.chg L H)).setCell (p := ⟨b, q, none⟩) ⟨g4, g5⟩ _⟩ : _ ∧ Chg L H U (wr.drew.setCell ⟨b, q, none⟩ (.int .i64 s)))
          have g1' : wr.cell? ⟨gs, q, none⟩ = some (.slice (some ⟨b, 0, none⟩) n cc) := g1
          have g2' : wr.cell? ⟨b, q, none⟩ = some (.int .i64 x) := g2
          have hkk : (k : Int) < ((k + 1 : Nat) : Int) := by omega
          have hkk2 : (k : Int) < (k : Int) + 1 := by omega
          have hqn : (q : Int) < (n : Int) := by omega
          clear hst hs hsI hfin g7 hO hC c0
          go_wp2
          go_still_tail 13, (by kernel_rfl)
          change wpList _ _ _ _ _ wr.drew
          clear g1' g2' g1 c1 t2 t4
          generalize wr.drew = V at HFF g2 g3 ⊢
          go_wp2
          go_roundw
          case rel => exact ⟨q+1, by omega, by go_num, HFF.out⟩
          case measure => simp [intOf]; omega
        · obtain rfl : q = n := by omega
          rw [dgS_n] at hO
          have hown := ownsRow_chg HI.out.own hC (fun b hb => by
            have : g = b := by simpa [Value.ownBlock] using hb
            have := HI.out.sep
            omega)
          have hbl := HI.out.below.chgn hC HI.out.base HI.out.below.size
          have HP := Lib.hid (productOfRows a q c sa cs A (addD (flP q A k).1 (dk A q k)) wr (by omega) (HR.out wr hbl) hO.rd)
          have HB := Lib.hid (⟨hown, hbl, hown.lt g rfl⟩ : _ ∧ _ ∧ _)
          clear hown hbl hO hC
          go_wp2_with fail
          refine HP.out.mono ?_
          rintro e w5 ⟨a5, c5, rfl, o5, b5⟩
          have hfl : mulM q A (addD (flP q A k).1 (dk A q k)) = (flP q A (k + 1)).1 := by
            rw [← (HFL.out k hk).1]; rfl
          rw [hfl] at o5
          have HT := Lib.hid (traceOf a5 q c5 (flP q A (k + 1)).1 w5 (by omega) o5.rd)
          have H5 := Lib.hid (⟨o5, b5⟩ : _ ∧ _)
          clear o5 b5 hfl HP
          go_wp2_with fail
          refine HT.out.mono ?_
          rintro e w6 ⟨rfl, q6⟩
          have hd := (HFL.out (k + 1) (by omega)).1
          have hd2 : (wrap64 (- trW (flP q A (k + 1)).1 q)).tdiv ((k : Int) + 1) = dk A q (k + 1) := by
            rw [← hd]
            have : (flP q A (k + 1)).1 = mulM q A (addD (flP q A k).1 (flP q A k).2) := rfl
            rw [this]; rfl
          have hDI := fits_I64 HF.out (k := k + 1) (by omega)
          have hsn := dkT_s A q k
          obtain ⟨D, hD⟩ : ∃ D, D = dk A q (k + 1) := ⟨_, rfl⟩
          rw [← hD] at hd2 hDI hsn
          have HSN := Lib.hid hsn
          generalize trW (flP q A (k + 1)).1 q = T at hd2 ⊢
          obtain ⟨z, hz⟩ : ∃ z, z = wrap64 (-T) := ⟨_, rfl⟩
          rw [← hz] at hd2
          have n1 : IntKind.i64.wrap (-T) = z := by rw [IntWalk.i64_left, hz]
          have n2 : wrap64 (-T) = z := hz.symm
          have n3 : IntKind.i64.wrap (z.tdiv ((k : Int) + 1)) = D := by rw [hd2]; exact IntWalk.i64_in _ (by unfold I64 at hDI; exact hDI)
          have n4 : wrap64 (z.tdiv ((k : Int) + 1)) = D := by rw [hd2]; exact IntWalk.wrap64_in _ (by unfold I64 at hDI; exact hDI)
          have k1 : IntKind.i64.wrap ((k : Int) + 1) = (k : Int) + 1 := IntWalk.i64_in _ (by clear n1 n2 n3 n4 hz hd2; omega)
          have k2 : wrap64 ((k : Int) + 1) = (k : Int) + 1 := IntWalk.wrap64_in _ (by clear n1 n2 n3 n4 hz hd2 k1; omega)
          have k3 : ¬ ((k : Int) + 1 = 0) := by clear n1 n2 n3 n4 hz hd2 k1 k2; omega
          have hb6 : Below w.heap.size w w6 := (HB.out.2.1.next H5.out.2).qt q6
          have ht6 := ownsRow_chg (ownsRow_chg HB.out.1 (H5.out.2.chg 0 0) (fun _ _ => .inr (Nat.zero_le _))) (q6.below.chg 0 0) (fun _ _ => .inr (Nat.zero_le _))
          have ht7 := ht6.alloc (.cells #[.int .i64 D] 2)
          have hnews := news_one w6 2 (.int .i64 D)
          have H6 := Lib.hid (⟨hb6, H5.out.1.qt q6, ht6.lt g rfl, q6.below.size⟩ : _ ∧ _ ∧ _ ∧ _)
          have hGw : w.heap.size ≤ w6.heap.size := hb6.size
          clear hz hd2 hD hd hsn hDI hb6 ht6 q6 HT
          go_wp2_with (first | (at_builtin; refine wpList_append_lies _ rfl _ _ 25 rfl w.heap.size 2 i0 (.int .i64 0) 1 8 Try.underlying25 hi' z0 z1 z2 rfl (by decide) _ _ _ rfl ht7 ⟨w6.heap.size, 0, none⟩ 1 1 [.int .i64 D] rfl rfl ?dc1 ?dc2 (by decide) ?dc3 ?dc4 ?dc5 _ rfl ?_) | fail)
          case dc1 => exact hnews
          case dc2 => first | (intro u hu; simp at hu; subst hu; rfl) | rfl | simp
          case dc3 => clear n1 n2 n3 n4 k1 k2 k3; unfold maxLen; omega
          case dc4 => clear n1 n2 n3 n4 k1 k2 k3; omega
          case dc5 => clear n1 n2 n3 n4 k1 k2 k3; simp; omega
          clear n1 n2 n3 n4 k1 k2 k3
          intro g7 c7 w7 hown3 hgr hlie hlt3
          have HNI : Hid (∃ L' H', flI w q A (k + 1) w7 g7 c7 a5 c5 L' H') := Lib.hid (by
            obtain ⟨r1, r2, r3, r4⟩ := H6.out
            have hg5 := HB.out.2.2
            have hs5 := H5.out.2.size
            refine ⟨wr.heap.size, w5.heap.size, ?_, ?_, ?_, ?_, ?_, ?_⟩
            · rw [HSN.out, List.map_append]; exact hown3
            · refine r2.chg (lo' := g) (hi' := g + 1) (Chg.trans (((Below.refl _ _).alloc (Nat.le_refl _) _).chg _ _) (Chg.grown hgr (fun b hb => ?_))) (.inr (by omega))
              have : g = b := by simpa [Value.ownBlock] using hb
              omega
            · rcases hlie with h9 | h9
              · simp [Value.ownBlock] at h9; omega
              · first | omega | (simp at h9; omega)
            · refine (r1.alloc (by have := r1.size; omega) _).grown hgr (by have := r1.size; simp; omega) (fun b hb => ?_)
              have : g = b := by simpa [Value.ownBlock] using hb
              omega
            · have := HB.out.2.1.size; exact this
            · have := hgr.size; have h5 := H6.out.2.2.2; first | omega | (simp at this; omega))
          clear hown3 hgr hlie ht7 hnews H6 hGw
          obtain ⟨L', H', hN⟩ := HNI.out
          have HNN := Lib.hid hN
          clear hN HNI
          go_wp2
          go_roundw
          case rel => exact ⟨k+1, g7, c7, a5, c5, L', H', by omega, by go_num, rfl, rfl, HNN.out⟩
          case measure => simp [intOf]; omega
    · obtain rfl : k = n := by omega
      have hO := OwI.mk HI.out.own (by omega) (dkT_I64 HF.out (Nat.le_refl k))
      have hcap : k + 1 ≤ cg := by
        rcases HI.out.own.2 with ⟨h1, _⟩ | ⟨_, _, _, hv, _, _, hle, _⟩
        · simp at h1
        · simp only [Value.slice.injEq] at hv; omega
      have HWZ := Lib.hid (withoutZeros g (k + 1) cg (dkL A k) U hO (by simp [dkL]) (by omega) hcap)
      clear hO hcap
      go_wp2_with fail
      refine HWZ.out.mono ?_
      rintro e w9 ⟨⟨a9, rfl, o9⟩, q9⟩
      have HO := Lib.hid (⟨OwI.mono o9 (Nat.le_refl _) q9.below.size, HI.out.below.qt q9⟩ : _ ∧ _)
      clear o9 q9 HWZ
      go_wp2
      go_ret
      exact ⟨a9, cg, rfl, HO.out⟩

end Go.Proofs.Ytnblhkhdilkbeaa
