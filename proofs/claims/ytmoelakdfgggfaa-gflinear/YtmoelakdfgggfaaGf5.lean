/-
  Contract of layer 7 (gf): Sum. No statement of the seed is proved here.
-/
import Derived.Test.YtmoelakdfgggfaaGf4
namespace Go.Proofs.Ytmoelakdfgggfaa
open Go.RowKit
set_option linter.unusedVariables false

/-- Texts summed, or not. -/
def gSumV (cs : List UInt8) (ls : List (List UInt8)) : List UInt8 := if cs.length = ls.length ∧ one1 ls = true then gsum (ls.getD 0 []).length cs ls else []
def gSumE (cs : List UInt8) (ls : List (List UInt8)) : Int := if cs.length = ls.length ∧ one1 ls = true then 0 else 14
/-- A text and an error's number. -/
def SumRet (bs : List UInt8) (er : Int) (w : World) (e : Ending) (w' : World) : Prop := ∃ A n c, e = .returned (.tuple #[.slice A n c, .int .i64 er]) ∧ RdB w' A n c bs ∧ Kept [] w w'

set_option maxRecDepth 100000 in
set_option maxHeartbeats 2000000 in
theorem sum7_any (p : Nat) (A : Option Addr) (n c : Nat) (cs : List UInt8) (A' : Option Addr) (n' c' : Nat) (ls : List (List UInt8)) (w : World) (hT : TabAt w p) (hr : RdB w A n c cs) (hl : RdL w A' n' c' ls) (hbig : ∀ l ∈ ls, l.length ≤ 1000000) :
    Calls Try.prog 20 #[.pointer (some ⟨p, 0, none⟩), .slice A n c, .slice A' n' c'] w (SumRet (gSumV cs ls) (gSumE cs ls) w) := by
  have HT := Lib.hid hT
  have HR := Lib.hid hr
  have HL := Lib.hid hl
  have Hpl := Lib.hid hT.lt
  have hlc := hr.len
  have hll := hl.len
  have b1 := hr.cap
  have b2 := hr.most
  have b3 := hl.cap
  have b4 := hl.most
  unfold maxLen at b2 b4
  obtain ⟨i0, hi0, hz0, hz1, hz2⟩ := info_parts u8info
  by_cases hne : n = n'
  · subst hne
    by_cases hone : one1 ls = true
    · have HV : Hid (gSumV cs ls = gsum (ls.getD 0 []).length cs ls ∧ gSumE cs ls = 0) := Lib.hid (by
        unfold gSumV gSumE
        rw [if_pos ⟨by omega, hone⟩, if_pos ⟨by omega, hone⟩]
        exact ⟨rfl, rfl⟩)
      rw [HV.out.1, HV.out.2]
      have HO : Hid (∀ l ∈ ls, l.length = (ls.getD 0 []).length) := Lib.hid (one1_spec hone)
      have HOne : Hid (one1 ls = true) := Lib.hid hone
      obtain ⟨N, hN⟩ : ∃ N, N = (ls.getD 0 []).length := ⟨_, rfl⟩
      rw [← hN] at HO ⊢
      have HLl := Lib.hid hll
      have HLc := Lib.hid hlc
      by_cases h0 : n = 0
      · subst h0
        have HE : Hid (ls = []) := Lib.hid (List.eq_nil_of_length_eq_zero hll)
        have HG : Hid (gsum N cs ls = []) := Lib.hid (by
          rw [hN, HE.out]; rfl)
        rw [HG.out]
        clear hT hr hl hbig hlc hll hone HV HO hN
        go_enter Try.func20, Try.ntmps20
        go_wp2_with fail
        refine (oneLen_any _ _ _ ls _ HL.out).mono ?_
        rw [HOne.out]
        rintro e w' ⟨rfl, rfl⟩
        go_wp2
        go_ret2
        exact ⟨none, 0, 0, rfl, RdB.nil _, Kept.refl _ _⟩
      · obtain ⟨b, off, A0, n0, c0, l0, rfl, hb, c2, g2, r2⟩ := hl.at_ (k := 0) (by omega)
        rw [Nat.add_zero] at c2
        obtain rfl : n0 = N := by rw [hN, ← r2.len, List.getD_eq_getElem?_getD, g2]; rfl
        have HB : Hid (n0 ≤ 1000000) := Lib.hid (by rw [← r2.len]; exact hbig l0 (List.mem_of_getElem? g2))
        have hnb := HB.out
        have hn0 : 0 < n := by omega
        have heq : ((n : Int) == 0) = false := by simp; omega
        have HC := Lib.hid c2
        have HG := Lib.hid (fun k hk => gsumN_length (cs := cs) (n := n0) HO.out k hk)
        have HS : Hid (∀ k, gsumN n0 cs ls (k + 1) = gadd (gsumN n0 cs ls k) (cs.getD k 0) (ls.getD k [])) := Lib.hid (fun k => rfl)
        have HZ : Hid (gsumN n0 cs ls 0 = List.replicate n0 0) := Lib.hid rfl
        have HGs : Hid (gsumN n0 cs ls n = gsum n0 cs ls) := Lib.hid (by unfold gsum; rw [HLl.out])
        generalize gsum n0 cs ls = GG at *
        generalize gsumN n0 cs ls = G at *
        clear hT hr hl hbig hlc hll hone HV hN r2 g2 h0
        go_enter Try.func20, Try.ntmps20
        go_wp2_with fail
        refine (oneLen_any _ _ _ ls _ HL.out).mono ?_
        rw [HOne.out]
        rintro e w' ⟨rfl, rfl⟩
        go_wp2_with (with_reducible change wpList _ _ _ (⟨_, Op.makeSlice _ _ _, _, _, _, _⟩ :: _) _ _; refine wpList_make_bytes rfl (.tmp 29) (.tmp 29) 35 rfl 5 i0 Try.underlying35 hi0 hz0 hz1 hz2 _ _ _ _ n0 rfl rfl rfl rfl (by omega) ?_)
        intro w1 ho1 hk1
        have hB1 := ho1.blk
        obtain ⟨g, hg⟩ : ∃ g, g = w'.heap.size := ⟨_, rfl⟩
        rw [← hg] at hB1 ⊢
        have Hg := Lib.hid hg
        clear ho1 hg c2
        rw [← HZ.out] at hB1
        go_wp2
        go_loopw [33] (fun i wr => ∃ k : Nat, k ≤ n ∧ i = .int .i64 (k : Int) ∧ Blk wr g 5 (bvs (G k)) ∧ Kept [] w' wr) (fun i _ => n - (intOf i).toNat)
        case atStart => exact ⟨0, by omega, rfl, hB1, hk1⟩
        case round =>
          clear hB1 hk1
          obtain ⟨k, hk, rfl, hB, hK⟩ := hrel
          by_cases hlt : k < n
          · have hl2 := HL.out.kept0 hK
            have hr2 := HR.out.kept0 hK
            obtain ⟨b', off', Ak, nk, ck, l, e0, hb', c1, g1, r1⟩ := HL.out.at_ hlt
            injection e0 with e0
            injection e0 with e1 e2
            subst e1 e2
            obtain ⟨bc, oc, x, rfl, c3, g3, hx⟩ := hr2.byte hlt
            have c1' := (hK.cell (p := ⟨b, off + k, none⟩) hb (by simp)).trans c1
            have hnk : nk = n0 := by rw [← r1.len]; exact HO.out l (List.mem_of_getElem? g1)
            have Hl : Hid (ls.getD k [] = l) := Lib.hid (by rw [List.getD_eq_getElem?_getD, g1]; rfl)
            have Hx : Hid (cs.getD k 0 = x) := Lib.hid (by rw [List.getD_eq_getElem?_getD, g3]; rfl)
            have HR1 := Lib.hid r1
            have HBB := Lib.hid hB
            have HK := Lib.hid hK
            have Hnk := Lib.hid hnk
            have r1c := r1.cap
            have r1m := r1.most
            unfold maxLen at r1m
            clear hl2 hr2 c1 g1 g3 r1 hnk hB hK
            go_wp2_with fail
            refine (add7_any p g n0 (G k) x _ Ak nk ck l _ (HT.out.kept0 HK.out) rfl HBB.out (HG.out k (by rw [HLl.out]; omega)) (HR1.out.kept0 HK.out) Hnk.out (fun h a ha hin => by
              obtain ⟨b9, o9, e9, hb9, _⟩ := HR1.out.at_ (by have := Hnk.out; omega)
              rw [e9] at ha; injection ha with ha; subst ha
              have h1 : b9 = g := by simpa using hin
              have := Hg.out; omega) (by have := Hpl.out; have := Hg.out; omega)).mono ?_
            rintro e w2 ⟨rfl, hB2, hk2⟩
            rw [← Hl.out, ← Hx.out, ← HS.out k] at hB2
            have hKK : Kept [] w' w2 := HK.out.trans hk2 (by simp; have := Hg.out; omega)
            clear HBB HK HR1 Hl Hx Hnk hk2 c1' c3
            go_wp2
            go_roundw
            case rel => exact ⟨k + 1, by omega, by go_num, hB2, hKK⟩
            case measure => simp [intOf]; omega
          · obtain rfl : n = k := by omega
            have HRd : Hid (RdB wr (some ⟨g, 0, none⟩) n0 n0 GG) := Lib.hid (by
              have hgl := HG.out n (by rw [HLl.out]; omega)
              rw [HGs.out] at hB hgl
              exact hB.rdb 0 n0 n0 GG (by rw [List.drop_zero, List.take_of_length_le (by rw [bvs_length]; omega)]) hgl (Nat.le_refl _) (by simp only [maxLen]; omega))
            clear hB
            go_wp2
            go_ret2
            exact ⟨_, n0, n0, rfl, HRd.out, hK⟩
    · have HV : Hid (gSumV cs ls = [] ∧ gSumE cs ls = 14) := Lib.hid (by
        unfold gSumV gSumE
        rw [if_neg (fun h => hone h.2), if_neg (fun h => hone h.2)]
        exact ⟨rfl, rfl⟩)
      rw [HV.out.1, HV.out.2]
      have HF : Hid (one1 ls = false) := Lib.hid (by simpa using hone)
      clear hT hr hl hbig hlc hll hone HV
      go_enter Try.func20, Try.ntmps20
      go_wp2_with fail
      refine (oneLen_any _ _ _ ls _ HL.out).mono ?_
      rw [HF.out]
      rintro e w' ⟨rfl, rfl⟩
      go_wp2
      go_ret2
      exact ⟨none, 0, 0, rfl, RdB.nil _, Kept.refl _ _⟩
  · have HV : Hid (gSumV cs ls = [] ∧ gSumE cs ls = 14) := Lib.hid (by
      unfold gSumV gSumE
      rw [if_neg (fun h => hne (by omega)), if_neg (fun h => hne (by omega))]
      exact ⟨rfl, rfl⟩)
    rw [HV.out.1, HV.out.2]
    have hq : ((n : Int) != (n' : Int)) = true := by simp; omega
    clear hT hr hl hbig hlc hll HV
    go_enter Try.func20, Try.ntmps20
    go_wp2
    go_ret2
    exact ⟨none, 0, 0, rfl, RdB.nil _, Kept.refl _ _⟩
end Go.Proofs.Ytmoelakdfgggfaa
