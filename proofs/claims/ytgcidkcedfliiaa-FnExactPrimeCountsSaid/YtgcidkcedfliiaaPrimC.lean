/- PrimeCounts, both sides. -/
import Derived.Test.YtgcidkcedfliiaaImplStc
import Derived.Test.YtgcidkcedfliiaaMoeb
import Derived.Test.YtgcidkcedfliiaaSpecMat
import Derived.Deep.RegionHeld3
set_option linter.unusedSimpArgs false
set_option linter.unusedVariables false
namespace Go.Proofs.Ytgcidkcedfliiaa
open Go.RowKit

/-- the sum over the divisors up to d -/
def pcS (cs : List Int) (l : Nat) : Nat → Int
  | 0 => 0
  | d + 1 => if l % (d + 1) = 0 then wrap64 (pcS cs l d + wrap64 (moeb (l / (d + 1)) * cs.getD d 0)) else pcS cs l d
def primeC (cs : List Int) (l : Nat) : Int := wrap64 ((pcS cs l l).tdiv (l : Int))
def pcs (cs : List Int) (k : Nat) : List Int := (List.range k).map (fun i => primeC cs (i + 1))
theorem pcs_len (cs : List Int) (k : Nat) : (pcs cs k).length = k := by simp [pcs]
theorem pcs_I64 (cs : List Int) (k : Nat) : ∀ x ∈ pcs cs k, I64 x := by
  intro x hx
  simp only [pcs, List.mem_map] at hx
  obtain ⟨q, _, rfl⟩ := hx
  exact wrap_I64 _
theorem pcS_I64 (cs : List Int) (l d : Nat) : I64 (pcS cs l d) := by
  induction d with
  | zero => exact I64_zero
  | succ d ih =>
    simp only [pcS]
    split
    · exact wrap_I64 _
    · exact ih
def pcV (cs : List Int) (k : Nat) : List Value := (pcs cs k).map (Value.int .i64)
theorem pcV_step (cs : List Int) (k : Nat) : pcV cs (k+1) = pcV cs k ++ [.int .i64 (primeC cs (k+1))] := by simp [pcV, pcs, List.range_succ]
def pcOf (s : Int) (xss : List (List Int)) (k : Int) : List Int × Int := if (stcOf s xss k).2 = 0 then (pcs (stcOf s xss k).1 k.toNat, 0) else ([], (stcOf s xss k).2)
theorem stcOf_code (s : Int) (xss : List (List Int)) (k : Int) : (stcOf s xss k).2 = ccode s xss k 1 10 := by
  unfold stcOf
  by_cases h : ccode s xss k 1 10 = 0
  · rw [if_pos h, h]
  · rw [if_neg h]
theorem stcOf_len {s : Int} {xss : List (List Int)} {k : Nat} (h : (stcOf s xss k).2 = 0) : (stcOf s xss k).1.length = k ∧ 1 ≤ k ∧ k ≤ 10 := by
  rw [stcOf_code] at h
  have := (ccode_ok h).2
  unfold stcOf
  rw [if_pos h]
  exact ⟨by simp [cnts_len], by omega, by omega⟩
theorem toNat_of {s : Int} {xss : List (List Int)} {k : Int} (h : (stcOf s xss k).2 = 0) : ∃ q : Nat, k = (q : Int) := by
  rw [stcOf_code] at h
  have := (ccode_ok h).2
  exact ⟨k.toNat, by omega⟩

set_option maxRecDepth 100000 in
set_option maxHeartbeats 6400000 in
theorem implPrimC {lo hi : Nat} (s : Int) (a : Option Addr) (n c : Nat) (xss : List (List Int)) (k : Int) (w : World) (h : RdR lo hi w (.slice a n c) xss) (hn : xss.length = n) :
    Calls Try.prog 45 #[.agg #[.int .i64 s, .slice a n c], .int .i64 k] w fun e w' => ∃ a' c', e = .returned (.tuple #[.slice a' (pcOf s xss k).1.length c', .int .i64 (pcOf s xss k).2]) ∧ OwI w.heap.size w'.heap.size w' (.slice a' (pcOf s xss k).1.length c') (pcOf s xss k).1 ∧ Below w.heap.size w w' := by
  obtain ⟨i0, hi', z0, z1, z2⟩ := info_parts Try.info2
  have HR := Lib.hid h
  have HS := Lib.hid (fun W' (h' : RdR lo hi W' (.slice a n c) xss) => implStc s a n c xss k W' h' hn)
  obtain ⟨P, hP⟩ : ∃ P, P = pcOf s xss k := ⟨_, rfl⟩
  rw [← hP]
  unfold pcOf at hP
  have HT := Lib.hid (fun h => toNat_of (s := s) (xss := xss) (k := k) h)
  have HL := Lib.hid (fun (q : Nat) (e : k = (q : Int)) (h : (stcOf s xss k).2 = 0) => show (stcOf s xss k).1.length = q ∧ 1 ≤ q ∧ q ≤ 10 by rw [e] at h ⊢; exact stcOf_len h)
  generalize stcOf s xss k = T at HS hP HT HL
  obtain ⟨cs, code⟩ := T
  have HP := Lib.hid hP
  clear h hn hP
  go_enter Try.func45, Try.ntmps45
  go_wp2_with fail
  refine calls_gen (fun W => Below w.heap.size w W) ((Below.refl _ _).alloc (Nat.le_refl _) _) ?_
  rintro W hB
  refine (HS.out W (HR.out.below hB)).mono ?_
  rintro e w1 ⟨a6, c6, rfl, o6, b1⟩
  replace o6 := o6.mono hB.size (Nat.le_refl _)
  replace hB := hB.next b1
  clear b1 HS
  have hP := HP.out
  clear HP
  dsimp only at hP HT HL o6 ⊢
  by_cases hc : code = 0
  · obtain ⟨q, rfl⟩ := HT.out hc
    obtain ⟨hcl, hq1, hq10⟩ := HL.out q rfl hc
    rw [if_pos hc, Int.toNat_natCast] at hP
    subst hc
    have hlen : P.1.length = q := by rw [hP]; exact pcs_len _ _
    have HP2 := Lib.hid (⟨hP, hlen⟩ : _ ∧ _)
    have HO6 := Lib.hid (⟨o6.rd, hB⟩ : _ ∧ _)
    rw [hcl]
    have HCL := Lib.hid hcl
    clear hP hlen hB o6 hcl HT HL
    go_wp2_with (at_make; refine wpList_make_full _ rfl _ _ 25 rfl w1.heap.size 2 i0 (.int .i64 0) 1 Try.underlying25 hi' z0 z1 _ _ _ _ q rfl rfl rfl rfl ?c1 ?c2 ?c3 ?_)
    case c1 => rw [z2]; omega
    case c2 => unfold maxLen; omega
    case c3 => exact Nat.le_refl _
    intro w2 hown hgr
    rw [rowTo_zero (fun j => primeC cs (j + 1)) q] at hown
    have hRD := HO6.out.1
    have hB := HO6.out.2
    have hb2 : Below w1.heap.size w1 w2 := (Below.refl _ _).grown hgr (Nat.le_refl _) (fun j hj => by cases hj)
    obtain ⟨G, hG⟩ : ∃ G, G = w1.heap.size := ⟨_, rfl⟩
    have hGw : w.heap.size ≤ G := by rw [hG]; exact hB.size
    have hGw1 : G ≤ w1.heap.size := by omega
    rw [← hG] at hown hb2 ⊢
    have HW2 := Lib.hid (⟨hown, by rw [hG] at hb2; exact hB.next hb2⟩ : _ ∧ Below w.heap.size w w2)
    have HRD := Lib.hid (show ∀ W', Below G w1 W' → ∀ j, j < q → ∃ b off, a6 = some ⟨b, off, none⟩ ∧ W'.cell? ⟨b, off + j, none⟩ = some (.int .i64 (cs.getD j 0)) from fun W' hb j hj => by
      rw [hG] at hb
      rw [HCL.out] at hRD
      exact (hRD.below hb).at' HCL.out j hj)
    have HB2 := Lib.hid hb2
    clear hRD hB hb2 hown hgr hG HO6
    go_wp2
    go_loopw [26] (fun i wr => ∃ f : Nat, f ≤ q ∧ i = .int .i64 f ∧ wr.ownsRow G 2 1 (.slice (some ⟨G, 0, none⟩) q q) q (rowTo (fun j => primeC cs (j + 1)) q f) ∧ Below G w1 wr ∧ Below w.heap.size w wr) (fun i _ => q - (intOf i).toNat)
    case atStart => exact ⟨0, Nat.zero_le _, rfl, HW2.out.1, HB2.out, HW2.out.2⟩
    case round =>
      clear HW2
      obtain ⟨f, hf, rfl, hown, hb1, hB⟩ := hrel
      by_cases hlf : f < q
      · obtain ⟨U, rfl⟩ : ∃ U, U = wr := ⟨_, rfl⟩
        have HU := Lib.hid (⟨hown, hb1, hB⟩ : _ ∧ _ ∧ _)
        clear hown hb1 hB
        go_wp2
        go_loopw [11, 12] (fun v y wr' => ∃ d : Nat, d ≤ f + 1 ∧ v = .int .i64 (pcS cs (f + 1) d) ∧ y = .int .i64 ((d + 1 : Nat) : Int) ∧ Qt U wr') (fun _ y _ => q + 2 - (intOf y).toNat)
        case atStart => exact ⟨0, Nat.zero_le _, rfl, rfl, Qt.refl _⟩
        case round =>
          rename_i hrel
          obtain ⟨d, hd, rfl, rfl, hqt⟩ := hrel
          by_cases hld : d < f + 1
          · obtain ⟨b, off, rfl, g0⟩ := HRD.out wr (HU.out.2.1.trans (hqt.below.mono (Nat.le_trans hGw1 HU.out.2.1.size))) d (by omega)
            have hst : pcS cs (f + 1) (d + 1) = if (f + 1) % (d + 1) = 0 then wrap64 (pcS cs (f + 1) d + wrap64 (moeb ((f + 1) / (d + 1)) * cs.getD d 0)) else pcS cs (f + 1) d := rfl
            obtain ⟨r, hr⟩ : ∃ r, r = (f + 1) % (d + 1) := ⟨_, rfl⟩
            obtain ⟨l, hl⟩ : ∃ l, l = (f + 1) / (d + 1) := ⟨_, rfl⟩
            have hl12 : l ≤ 12 := by rw [hl]; exact Nat.le_trans (Nat.div_le_self _ _) (by omega)
            have m1 : ((f : Int) + 1).tmod ((d : Int) + 1) = (r : Int) := by
              rw [Int.tmod_eq_emod_of_nonneg (by omega), hr, Int.natCast_emod]; rfl
            have m2 : ((f : Int) + 1).tdiv ((d : Int) + 1) = (l : Int) := by
              rw [Int.tdiv_eq_ediv_of_nonneg (by omega), hl, Int.natCast_ediv]; rfl
            have hrr : r ≤ 12 := by rw [hr]; exact Nat.le_trans (Nat.mod_le _ _) (by omega)
            rw [← hr, ← hl] at hst
            generalize cs.getD d 0 = x at g0 hst
            have hSI := pcS_I64 cs (f + 1) d
            generalize pcS cs (f + 1) d = S at hst hSI ⊢
            obtain ⟨m, hm⟩ : ∃ m, m = wrap64 (moeb l * x) := ⟨_, rfl⟩
            obtain ⟨t, ht⟩ : ∃ t, t = wrap64 (S + m) := ⟨_, rfl⟩
            rw [← hm, ← ht] at hst
            have hz : ¬ ((d : Int) + 1) = 0 := by omega
            have hMO := implMoeb l
            have hx0 : (0 : Int) ≤ (d : Int) := by omega
            have hx1 : (d : Int) < (q : Int) := by omega
            have hx2 : (d : Int) ≤ (f : Int) := by omega
            have u1 : IntKind.i64.wrap (moeb l * x) = m := by rw [IntWalk.i64_left, hm]
            have u2 : IntKind.i64.wrap (S + m) = t := by rw [IntWalk.i64_left, ht]
            have u3 : wrap64 (moeb l * x) = m := hm.symm
            have u4 : wrap64 (S + m) = t := ht.symm
            clear hm ht hr hl
            by_cases hr0 : r = 0
            · subst hr0
              rw [if_pos rfl] at hst
              have HST := Lib.hid hst
              clear hst
              have v5 : (d : Int).toNat = d := by omega
              have HLE := Lib.hid hl12
              clear hSI hrr
              have v1 : IntKind.i64.wrap (d : Int) = (d : Int) := IntWalk.i64_in _ (by clear u1 u2 u3 u4; omega)
              have v2 : wrap64 (d : Int) = (d : Int) := IntWalk.wrap64_in _ (by clear u1 u2 u3 u4 v1; omega)
              have v3 : IntKind.i64.wrap (l : Int) = (l : Int) := IntWalk.i64_in _ (by clear u1 u2 u3 u4 v1 v2; omega)
              have v4 : wrap64 (l : Int) = (l : Int) := IntWalk.wrap64_in _ (by clear u1 u2 u3 u4 v1 v2 v3; omega)
              generalize moeb l = mu at u1 u3 hMO
              go_wp2
              go_quiet ((go_at_call 84; exact Calls.quiet_of (hMO _ HLE.out)))
              clear v1 v2 v3 v4 v5 u1 u2 u3 u4 m1 m2
              go_wp2
              go_roundw
              case rel => exact ⟨d+1, by omega, by rw [HST.out], by go_num, hqt.drewN _⟩
              case measure => simp [intOf]; omega
            · have hr0b : ((r : Int) == 0) = false := by simp; omega
              rw [if_neg hr0] at hst
              have HST := Lib.hid hst
              clear hst u1 u2 u3 u4 g0 hSI
              have v1 : IntKind.i64.wrap (r : Int) = (r : Int) := IntWalk.i64_in _ (by omega)
              have v2 : wrap64 (r : Int) = (r : Int) := IntWalk.wrap64_in _ (by clear v1; omega)
              clear hr0 hMO
              go_wp2
              clear v1 v2 m1 m2
              go_roundw
              case rel => exact ⟨d+1, by omega, by rw [HST.out], by go_num, hqt⟩
              case measure => simp [intOf]; omega
          · obtain rfl : d = f + 1 := by omega
            obtain ⟨hown, hb1, hB⟩ := HU.out
            have hownQ := ownsRow_chg hown (hqt.chg 0 0) (fun _ _ => .inr (Nat.zero_le _))
            have hbQ : Below G w1 wr := hb1.trans (hqt.below.mono (Nat.le_trans hGw1 hb1.size))
            have hBQ := hB.qt hqt
            have hput := rowTo_put (fun j => primeC cs (j + 1)) hlf (primeC cs (f + 1)) rfl
            have h3 := (hownQ.cellAt f (by omega)).trans (rowTo_get (fun j => primeC cs (j + 1)) hlf)
            have h4 := hownQ.frozenAt f
            have hsto := (hownQ.stored f (.int .i64 (primeC cs (f + 1)))).1
            rw [hput] at hsto
            have HF := Lib.hid (⟨hsto, hbQ.setCell (p := ⟨G, f, none⟩) (Nat.le_refl _) _, hBQ.setCell (p := ⟨G, f, none⟩) hGw _⟩ : _ ∧ Below G w1 (wr.setCell ⟨G, f, none⟩ (.int .i64 (primeC cs (f + 1)))) ∧ Below w.heap.size w (wr.setCell ⟨G, f, none⟩ (.int .i64 (primeC cs (f + 1)))))
            have hpc : primeC cs (f + 1) = wrap64 ((pcS cs (f + 1) (f + 1)).tdiv ((f : Int) + 1)) := rfl
            generalize primeC cs (f + 1) = t at HF hpc
            generalize pcS cs (f + 1) (f + 1) = S at hpc ⊢
            have u1 : IntKind.i64.wrap (S.tdiv ((f : Int) + 1)) = t := by rw [IntWalk.i64_left, hpc]
            have u2 : wrap64 (S.tdiv ((f : Int) + 1)) = t := hpc.symm
            have hz : ¬ ((f : Int) + 1) = 0 := by omega
            clear hown hb1 hB hownQ hbQ hBQ hput hsto hpc
            go_wp2
            clear u1 u2
            go_roundw
            case rel => exact ⟨f+1, by omega, by go_num, HF.out⟩
            case measure => simp [intOf]; omega
      · obtain rfl : f = q := by omega
        rw [rowTo_all] at hown
        have hO : OwI G wr.heap.size wr (.slice (some ⟨G, 0, none⟩) f f) (pcs cs f) := OwI.mk hown (by omega) (pcs_I64 cs f)
        have hO2 := hO.mono hGw (Nat.le_refl _)
        have HF := Lib.hid (⟨hO2, hB⟩ : _ ∧ _)
        clear hown hb1 hB hO hO2
        go_wp2
        go_ret2
        refine ⟨some ⟨G, 0, none⟩, f, ?_, ?_, HF.out.2⟩
        · rw [HP2.out.2, HP2.out.1]; rfl
        · rw [HP2.out.2, HP2.out.1]; exact HF.out.1
  · rw [if_neg hc] at hP
    have hcb : (code != 0) = true := by simpa using hc
    clear hc
    subst hP
    go_wp2
    go_ret2
    exact ⟨none, 0, rfl, OwI.nil _ _ _, hB⟩

end Go.Proofs.Ytgcidkcedfliiaa
