/-
  Contracts of layer 9 (rs), going on: the matrix that leads back. No statement of the seed is proved here.
-/
import Derived.Test.YtpnpimhfakfolaaRs4
namespace Go.Proofs.Ytpnpimhfakfolaa
open Go.RowKit
set_option linter.unusedVariables false

theorem back9_arg (q n k p : Nat) (A : Option Addr) (c : Nat) (A1 : Option Addr) (m c1 : Nat) (A2 : Option Addr) (n2 c2 : Nat) (ls : List (List UInt8)) (w : World) (hl : RdL w A2 n2 c2 ls) (h : m ≠ n2 ∨ one1 ls = false) :
    Calls Try.prog 35 #[.pointer (some ⟨q, 0, none⟩), .slice A1 m c1, .slice A2 n2 c2] w (LRet2 [] 14 w) := by
  by_cases he : m = n2
  · subst he
    have hone := h.resolve_left (fun h => h rfl)
    have HO := Lib.hid (oneLen9_any A2 m c2 ls w hl)
    rw [hone] at HO
    clear hl h hone
    go_enter Try.func35, Try.ntmps35
    go_wp2_with fail
    refine HO.out.mono ?_
    rintro e w' ⟨rfl, rfl⟩
    go_wp2
    go_ret2
    exact ⟨none, 0, 0, rfl, RdL.nil _, Kept.refl _ _⟩
  · have hE : ((m : Int) != (n2 : Int)) = true := by simp; omega
    clear hl h
    go_enter Try.func35, Try.ntmps35
    go_wp2
    go_ret2
    exact ⟨none, 0, 0, rfl, RdL.nil _, Kept.refl _ _⟩
theorem back9_range (q n k p : Nat) (A : Option Addr) (c : Nat) (A1 : Option Addr) (m c1 : Nat) (f : Nat → Int) (A2 : Option Addr) (c2 : Nat) (ls : List (List UInt8)) (w : World) (hc : CodeAt w q n k p A c) (h1 : RdI w A1 m c1 f) (hl : RdL w A2 m c2 ls) (hone : one1 ls = true) (h : ¬ unlP n m f) :
    Calls Try.prog 35 #[.pointer (some ⟨q, 0, none⟩), .slice A1 m c1, .slice A2 m c2] w (LRet2 [] 3 w) := by
  have HO := Lib.hid (oneLen9_any A2 m c2 ls w hl)
  rw [hone] at HO
  have d1 := hc.rows
  have HU := Lib.hid (unlike9_any A n c A1 m c1 f w h1 hc.n255)
  have HN := Lib.hid h
  clear hc h1 hl hone h
  go_enter Try.func35, Try.ntmps35
  go_wp2_with fail
  refine HO.out.mono ?_
  rintro e w' ⟨rfl, rfl⟩
  go_wp2_with fail
  refine HU.out.mono ?_
  rintro e w2 ⟨u, rfl, hk, HQ⟩
  obtain rfl : u = false := by
    cases u with
    | false => rfl
    | true => exact absurd (HQ.out.1 rfl) HN.out
  go_wp2
  go_ret2
  exact ⟨none, 0, 0, rfl, RdL.nil _, hk⟩
theorem back9_few (q n k p : Nat) (A : Option Addr) (c : Nat) (A1 : Option Addr) (m c1 : Nat) (f : Nat → Int) (A2 : Option Addr) (c2 : Nat) (ls : List (List UInt8)) (w : World) (hc : CodeAt w q n k p A c) (h1 : RdI w A1 m c1 f) (hl : RdL w A2 m c2 ls) (hone : one1 ls = true) (h : unlP n m f) (hm : m < k) :
    Calls Try.prog 35 #[.pointer (some ⟨q, 0, none⟩), .slice A1 m c1, .slice A2 m c2] w (LRet2 [] 10 w) := by
  have HO := Lib.hid (oneLen9_any A2 m c2 ls w hl)
  rw [hone] at HO
  have d1 := hc.rows
  have HU := Lib.hid (unlike9_any A n c A1 m c1 f w h1 hc.n255)
  have HN := Lib.hid h
  have HC := Lib.hid hc
  clear hc h1 hl hone h
  go_enter Try.func35, Try.ntmps35
  go_wp2_with fail
  refine HO.out.mono ?_
  rintro e w' ⟨rfl, rfl⟩
  go_wp2_with fail
  refine HU.out.mono ?_
  rintro e w2 ⟨u, rfl, hk, HQ⟩
  obtain rfl := HQ.out.2 HN.out
  have d2 := (HC.out.kept0 hk).cnt
  clear d1 HC
  go_wp2
  go_ret2
  exact ⟨none, 0, 0, rfl, RdL.nil _, hk⟩

theorem inverse9_any (p : Nat) (A : Option Addr) (n c : Nat) (m V : Nat → Nat → GB) (w : World) (hT : TabAt w p) (hr : RdL w A n c (ofm n n m)) (hn1 : 1 ≤ n) (hn2 : n ≤ 255) (hV : ∀ i, i < n → ∀ j, j < n → mm n V m i j = un i j) :
    Calls Try.prog 48 #[.pointer (some ⟨p, 0, none⟩), .slice A n c] w (LRet2 (ofm n n V) 0 w) :=
  (inverse8_any p A n c m w hT hr hn1 hn2).mono fun e w' h => by
    obtain ⟨hk, ⟨_, h⟩ | ⟨R, G, off, x, rfl, hM, _, _, hx⟩⟩ := h
    · obtain ⟨r, hr, hR⟩ := h.out
      have := hR.unique (indep_of_inv hV).rank
      omega
    · refine ⟨_, _, _, rfl, ?_, hk⟩
      have := hM.out.rdl (by simp only [maxLen]; omega) (by simp only [maxLen]; omega)
      rw [ofm_congr (minv_unique hx.out hV)] at this
      exact this
/-- The matrix V leads from these rows back. -/
def BackP (k : Nat) (sel : Nat → Nat) (V : Nat → Nat → GB) : Prop := ∀ i, i < k → ∀ j, j < k → mm k V (fun t j => rsr k (sel t) j) i j = un i j
set_option maxRecDepth 100000 in
set_option maxHeartbeats 2000000 in
theorem back9_any (q n k p : Nat) (A : Option Addr) (c : Nat) (A1 : Option Addr) (m c1 : Nat) (f : Nat → Int) (sel : Nat → Nat) (V : Nat → Nat → GB) (A2 : Option Addr) (c2 : Nat) (ls : List (List UInt8)) (w : World) (hc : CodeAt w q n k p A c) (h1 : RdI w A1 m c1 f) (hl : RdL w A2 m c2 ls) (hone : one1 ls = true) (h : unlP n m f) (hm : k ≤ m)
    (hf : ∀ t, t < m → f t = (sel t : Int) ∧ sel t < n) (hV : BackP k sel V) :
    Calls Try.prog 35 #[.pointer (some ⟨q, 0, none⟩), .slice A1 m c1, .slice A2 m c2] w (LRet2 (ofm k k V) 0 w) := by
  have HO := Lib.hid (oneLen9_any A2 m c2 ls w hl)
  rw [hone] at HO
  have d1 := hc.rows
  have HU := Lib.hid (unlike9_any A n c A1 m c1 f w h1 hc.n255)
  have HN := Lib.hid h
  have HC := Lib.hid hc
  have H1 := Lib.hid h1
  have HF := Lib.hid hf
  have HV := Lib.hid hV
  have b1 := RdV.cap h1
  have b2 := RdV.most h1
  unfold maxLen at b2
  have k1 := hc.k1
  have k2 := hc.kn
  have k3 := hc.n255
  clear hc h1 hl hone h hf hV
  go_enter Try.func35, Try.ntmps35
  go_wp2_with fail
  refine HO.out.mono ?_
  rintro e w' ⟨rfl, rfl⟩
  go_wp2_with fail
  refine HU.out.mono ?_
  rintro e w2 ⟨u, rfl, hk, HQ⟩
  obtain rfl := HQ.out.2 HN.out
  have hC2 := HC.out.kept0 hk
  have d2 := hC2.cnt
  have HC2 := Lib.hid hC2
  have H12 := Lib.hid (H1.out.kept0 hk)
  have HK := Lib.hid hk
  have hcut := fun W => run_cut_first (P := Try.prog) 45 3 Try.underlying45 sizeIs A1 m c1 k (k : Int) rfl (by omega) W
  have p1 : (0 : Int) ≤ (k : Int) := by omega
  have p2 : (k : Int) ≤ (m : Int) := by omega
  have p3 : (k : Int) ≤ (c1 : Int) := by omega
  have SK : Hid (∀ W, Kept [] w2 W → W.cell? ⟨q, 2, none⟩ = some (.pointer (some ⟨p, 0, none⟩)) ∧ W.cell? ⟨q, 0, none⟩ = some (.slice A n c) ∧ W.cell? ⟨q, 1, none⟩ = some (.int .i64 (k : Int))) := Lib.hid (fun W hW => ⟨(HC2.out.kept0 hW).tab, (HC2.out.kept0 hW).rows, (HC2.out.kept0 hW).cnt⟩)
  have HS := Lib.hid (fun W (hW : Kept [] w2 W) => chosen9_any A n c k (rsr k) A1 k c1 f sel W (HC2.out.kept0 hW).mat ⟨rm_length _ _, by omega, RdV.most H1.out, fun hn => by
    obtain ⟨b, off, e, hb, hx⟩ := RdV.at_ (RdI.kept0 H12.out hW) (by omega)
    refine ⟨b, off, e, fun j hj => ?_⟩
    rw [rm_length] at hj
    rw [hx j (by rw [rm_length]; omega)]
    congr 1
    exact Option.some.inj (((List.getElem?_eq_getElem (by rw [rm_length]; omega)).symm.trans (rm_get (f := fun i => Value.int .i64 (f i)) (by omega))).trans ((rm_get (f := fun i => Value.int .i64 (f i)) hj).symm.trans (List.getElem?_eq_getElem (by rw [rm_length]; exact hj))))⟩ (fun t ht => HF.out t (by omega)) (by omega))
  clear hC2 hk d1 HU HN HQ HC H1
  have hKc : Kept [] w2 w2.drew := (Kept.refl [] w2).drew
  go_wp2_with fail
  go_region_held3 (fun w' => w'.cell? ⟨q, 2, none⟩ = some (.pointer (some ⟨p, 0, none⟩)) ∧ w'.cell? ⟨q, 0, none⟩ = some (.slice A n c) ∧ w'.cell? ⟨q, 1, none⟩ = some (.int .i64 (k : Int)))
    (first
      | exact SK.out _ hKc
      | exact SK.out _ (Kept.refl [] w2).drew
      | exact SK.out _ (Kept.refl [] w2))
    (first
      | (go_at_call 49; refine (HS.out _ hKc).mono ?_; rintro e w8 ⟨A8, n8, c8, rfl, hr8, hk8⟩; obtain rfl : k = n8 := (by have := hr8.len; rw [ofm_length] at this; exact this); have hKc := hKc.andThen hk8)
      | (go_at_call 48; refine (inverse9_any p _ _ _ _ V _ (HC2.out.kept0 hKc).tabs hr8 k1 (by omega) HV.out).mono ?_; rintro e w9 ⟨A9, n9, c9, rfl, hr9, hk9⟩; have hKc := hKc.andThen hk9))
  go_wp2
  go_ret2
  exact ⟨A9, n9, c9, rfl, hr9, HK.out.andThen hKc⟩
end Go.Proofs.Ytpnpimhfakfolaa
