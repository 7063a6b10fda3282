/-
  Contracts of the document's own Decode and Again. No statement of the seed is proved here.
-/
import Derived.Test.YtpnpimhfakfolaaR95
import Derived.Test.YtpnpimhfakfolaaR92
namespace Go.Proofs.Ytpnpimhfakfolaa
open Go.RowKit
set_option linter.unusedVariables false

theorem decodeD9_err (E y z : Int) (A1 : Option Addr) (m c1 : Nat) (A2 : Option Addr) (n2 c2 : Nat) (w : World) (hw : Calls Try.prog 36 #[.int .i64 y, .int .i64 z, .slice A1 m c1, .slice A2 n2 c2] w fun e w' => e = .returned (.int .i64 E) ∧ Kept [] w w') (hE : E ≠ 0) :
    Calls Try.prog 22 #[.int .i64 y, .int .i64 z, .slice A1 m c1, .slice A2 n2 c2] w (LRet2 [] E w) := by
  have HW := Lib.hid hw
  have he : (E != 0) = true := by simpa using hE
  clear hw
  go_enter Try.func22, Try.ntmps22
  go_wp2_with fail
  refine HW.out.mono ?_
  rintro e w' ⟨rfl, hk⟩
  go_wp2
  go_ret2
  exact ⟨none, 0, 0, rfl, RdL.nil _, hk⟩
theorem decodeD9_any (k n N : Nat) (y z : Int) (A1 : Option Addr) (m c1 : Nat) (f : Nat → Int) (sel : Nat → Nat) (V : Nat → Nat → GB) (A2 : Option Addr) (c2 : Nat) (x : Nat → Nat → GB) (w : World) (hy : y = (k : Int)) (hz : z = (n : Int)) (h1k : 1 ≤ k) (hkn : k ≤ n) (hn : n ≤ 255) (hkm : k ≤ m) (hN : N ≤ 1000000) (h1 : RdI w A1 m c1 f) (hu : unlP n m f) (hf : ∀ t, t < m → f t = (sel t : Int) ∧ sel t < n) (hV : BackP k sel V) (hl : RdL w A2 m c2 (ofm m N x)) :
    Calls Try.prog 22 #[.int .i64 y, .int .i64 z, .slice A1 m c1, .slice A2 m c2] w (LRet2 (ofm k N (mm k V x)) 0 w) := by
  subst hy hz
  have HW := Lib.hid (wrong9_any k n _ _ A1 m c1 f A2 c2 _ w rfl rfl hn (by omega) h1 hl (one1_ofm _ _ _))
  have HU := Lib.hid hu
  have HS := Lib.hid (fun W (hW : Kept [] w W) => solve9_any k n N _ A1 m c1 f sel V A2 c2 x W rfl h1k hkn hn hkm hN (h1.kept0 hW) hf hV (hl.kept0 hW))
  clear h1 hu hf hV hl
  go_enter Try.func22, Try.ntmps22
  go_wp2_with fail
  refine HW.out.mono ?_
  rintro e w1 ⟨E, rfl, hk, HE⟩
  obtain rfl : E = 0 := by
    rcases HE.out with ⟨h, _⟩ | ⟨_, h, _⟩ | ⟨_, _, h⟩
    · exact absurd HU.out h
    · omega
    · exact h
  have HS1 := Lib.hid (HS.out _ hk)
  have HK := Lib.hid hk
  clear HE HU HS hk HW
  go_wp2_with fail
  refine HS1.out.mono ?_
  rintro e w2 ⟨A, n', c, rfl, hr, hk⟩
  go_wp2
  go_ret2
  exact ⟨A, n', c, rfl, hr, HK.out.andThen hk⟩

theorem againD9_range (n : Nat) (y z v : Int) (A1 : Option Addr) (m c1 : Nat) (A2 : Option Addr) (n2 c2 : Nat) (w : World) (hz : z = (n : Int)) (h : v < 0 ∨ (0 ≤ v ∧ (n : Int) ≤ v)) :
    Calls Try.prog 24 #[.int .i64 y, .int .i64 z, .slice A1 m c1, .slice A2 n2 c2, .int .i64 v] w (SumRet [] 3 w) := by
  subst hz
  rcases h with h | ⟨h, h2⟩
  all_goals
    go_enter Try.func24, Try.ntmps24
    go_wp2
    go_ret2
    exact ⟨none, 0, 0, rfl, RdB.nil _, Kept.refl _ _⟩
theorem againD9_err (E : Int) (n i : Nat) (y z v : Int) (A1 : Option Addr) (m c1 : Nat) (A2 : Option Addr) (n2 c2 : Nat) (w : World) (hz : z = (n : Int)) (hv : v = (i : Int)) (hi : i < n) (hd : Calls Try.prog 22 #[.int .i64 y, .int .i64 z, .slice A1 m c1, .slice A2 n2 c2] w (LRet2 [] E w)) (hE : E ≠ 0) :
    Calls Try.prog 24 #[.int .i64 y, .int .i64 z, .slice A1 m c1, .slice A2 n2 c2, .int .i64 v] w (SumRet [] E w) := by
  subst hz hv
  have HD := Lib.hid hd
  have he : (E != 0) = true := by simpa using hE
  clear hd
  go_enter Try.func24, Try.ntmps24
  go_wp2_with fail
  refine HD.out.mono ?_
  rintro e w' ⟨A, n', c, rfl, hr, hk⟩
  go_wp2
  go_ret2
  exact ⟨none, 0, 0, rfl, RdB.nil _, hk⟩
theorem againD9_any (k n N i : Nat) (y z v : Int) (A1 : Option Addr) (m c1 : Nat) (f : Nat → Int) (sel : Nat → Nat) (V : Nat → Nat → GB) (A2 : Option Addr) (c2 : Nat) (x : Nat → Nat → GB) (w : World) (hy : y = (k : Int)) (hz : z = (n : Int)) (hv : v = (i : Int)) (hi : i < n) (h1k : 1 ≤ k) (hkn : k ≤ n) (hn : n ≤ 255) (hkm : k ≤ m) (hN : N ≤ 1000000) (h1 : RdI w A1 m c1 f) (hu : unlP n m f) (hf : ∀ t, t < m → f t = (sel t : Int) ∧ sel t < n) (hV : BackP k sel V) (hl : RdL w A2 m c2 (ofm m N x)) :
    Calls Try.prog 24 #[.int .i64 y, .int .i64 z, .slice A1 m c1, .slice A2 m c2, .int .i64 v] w (SumRet (rm N fun c => (mm k (rsr k) (mm k V x) i c).v) 0 w) := by
  subst hy hz hv
  have HD := Lib.hid (decodeD9_any k n N _ _ A1 m c1 f sel V A2 c2 x w rfl rfl h1k hkn hn hkm hN h1 hu hf hV hl)
  clear h1 hu hf hV hl
  go_enter Try.func24, Try.ntmps24
  go_wp2_with fail
  refine HD.out.mono ?_
  rintro e w1 ⟨A, n', c, rfl, hr, hk⟩
  have HR := Lib.hid hr
  have HK := Lib.hid hk
  clear hr hk HD
  go_wp2_with fail
  refine (rowD9_any k i _ _ _ rfl rfl h1k (by omega) (by omega)).mono ?_
  rintro e w6 ⟨g, cp, rfl, hO6, hg6, hk6⟩
  have HS := Lib.hid (sumD9_any k N h1k hN (rsr k i) (mm k V x) _ k cp A n' c w6 hO6.rdb (HR.out.kept0 hk6))
  have HK6 := Lib.hid (HK.out.andThen hk6)
  clear hO6 hg6 hk6 HR HK
  go_wp2_with fail
  refine HS.out.mono ?_
  rintro e w7 ⟨A7, n7, c7, rfl, hr7, hk7, hb7⟩
  go_wp2
  go_ret2
  exact ⟨A7, n7, c7, rfl, hr7, HK6.out.andThen hk7⟩
end Go.Proofs.Ytpnpimhfakfolaa
