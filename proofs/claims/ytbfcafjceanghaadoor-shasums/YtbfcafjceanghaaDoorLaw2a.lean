/-
  The walk of a law of layer 2: however a text is cut in three, its pieces have its digest. No statement of the seed is proved here.
-/
import Derived.Test.YtbfcafjceanghaaDoorShaW
import Derived.Deep.RegionHeld3
import Derived.OpenShut
namespace Go.Proofs.YtbfcafjceanghaaDoor
open Go.RowKit
set_option linter.unusedVariables false

section
variable {P : Program} {w : World} {A : Option Addr} {n c : Nat} {bs : List UInt8}
theorem size_of_elem (t e : TypeId) (ht : P.underlying t = some (.slice e)) (hs : (P.info? e).map (·.size) = some 1) (W : World) : (sizeOf (P.elem t)).run P W = .ok 1 W := by
  cases hq : P.info? e with
  | none => simp [hq] at hs
  | some i =>
    have hi : i.size = 1 := by simpa [hq] using hs
    have he : P.elem t = e := by simp [Program.elem, ht]
    rw [he]; simp [sizeOf, typeInfo, hq, hi]
/-- A byte slice that is cut from one place up to another. -/
theorem RdB.cutMid (h : RdB w A n c bs) (t e : TypeId) (ht : P.underlying t = some (.slice e)) (hs : (P.info? e).map (·.size) = some 1) (l k : Nat) (y z : Int) (hy : y = (l : Int)) (hz : z = (k : Int)) (hl : l ≤ k) (hk : k ≤ n) :
    ∃ A', RdB w A' (k - l) (c - l) ((bs.drop l).take (k - l)) ∧ ∀ W, (Instr.slice t (.slice A n c) (some (.int .i64 y)) (some (.int .i64 z)) none).run P W = .ok (.slice A' (k - l) (c - l)) W := by
  subst hy hz
  have hcap := h.cap
  refine ⟨_, (h.drop l (by omega)).take (k - l) (by omega), fun W => ?_⟩
  have he : P.elem t = e := by simp [Program.elem, ht]
  rw [run_slice_lh (P := P) W t A n c (by rw [he]; exact ht) .i64 .i64 (l : Int) (k : Int) (by omega) (by omega) (by omega), size_of_elem t e ht hs W]
  simp [sliced, Result.andThen]
/-- .. up to a place. -/
theorem RdB.cutTo (h : RdB w A n c bs) (t e : TypeId) (ht : P.underlying t = some (.slice e)) (hs : (P.info? e).map (·.size) = some 1) (k : Nat) (z : Int) (hz : z = (k : Int)) (hk : k ≤ n) :
    ∃ A', RdB w A' k c (bs.take k) ∧ ∀ W, (Instr.slice t (.slice A n c) none (some (.int .i64 z)) none).run P W = .ok (.slice A' k c) W := by
  subst hz
  have hcap := h.cap
  have h0 := (h.drop 0 (by omega)).take k (by omega)
  rw [List.drop_zero, Nat.sub_zero] at h0
  refine ⟨_, h0, fun W => ?_⟩
  have he : P.elem t = e := by simp [Program.elem, ht]
  rw [run_slice_h (P := P) W t A n c (by rw [he]; exact ht) .i64 (k : Int) (by omega) (by omega), size_of_elem t e ht hs W]
  simp [sliced, Result.andThen]
end

theorem RdL.three {w : World} {A1 A2 A3 : Option Addr} {n1 n2 n3 c1 c2 c3 : Nat} {b1 b2 b3 : List UInt8} (e : TypeId) (h1 : RdB w A1 n1 c1 b1) (h2 : RdB w A2 n2 c2 b2) (h3 : RdB w A3 n3 c3 b3) :
    RdL (w.alloc (.cells #[.slice A1 n1 c1, .slice A2 n2 c2, .slice A3 n3 c3] e)) (some ⟨w.heap.size, 0, none⟩) 3 3 [b1, b2, b3] := by
  refine ⟨rfl, Nat.le_refl _, by simp [maxLen], fun _ => ⟨w.heap.size, 0, rfl, by simp, fun j hj => ?_⟩⟩
  have hj3 : j = 0 ∨ j = 1 ∨ j = 2 := by simp at hj; omega
  rcases hj3 with rfl | rfl | rfl
  · exact ⟨A1, n1, c1, by rw [cell_of_row _ _ _ _ _ _ (heap_alloc_new w _)]; rfl, h1.alloc _⟩
  · exact ⟨A2, n2, c2, by rw [cell_of_row _ _ _ _ _ _ (heap_alloc_new w _)]; rfl, h2.alloc _⟩
  · exact ⟨A3, n3, c3, by rw [cell_of_row _ _ _ _ _ _ (heap_alloc_new w _)]; rfl, h3.alloc _⟩

theorem run_equalIn_key (l : List UInt8) (hl : l.length = 32) (W : World) : (Op.equalIn 10000 25 (.agg (bvs l).toArray) (.agg (bvs l).toArray)).run Tryd.prog W = .ok true W := by
  have he := run_equalIn_bytes (P := Tryd.prog) W 9998 25 5 32 arr32b Tryd.underlying5 (fun W => by
    have h1 := size1b
    cases hq : Tryd.prog.info? 5 with
    | none => simp [hq] at h1
    | some i =>
      have hi : i.size = 1 := by simpa [hq] using h1
      simp [sizeOf, typeInfo, hq, hi]) l l hl hl
  rw [show (l == l) = true by simp] at he
  exact he
set_option maxRecDepth 100000 in
set_option maxHeartbeats 4000000 in
theorem cut_walk (A : Option Addr) (n c : Nat) (bs : List UInt8) (a1 a2 : Int) (w : World) (hgl : Glob w) (hr : RdB w A n c bs) (w1 : (Lit.int .u16 a1).wf = true) (w2 : (Lit.int .u16 a2).wf = true) :
    Calls Tryd.prog 5 #[.slice A n c, .int .u16 a1, .int .u16 a2] w fun e w' => e = .returned (.bool true) ∧ Kept [] w w' := by
  obtain ⟨x0, x1⟩ := bounds_u16 w1
  obtain ⟨y0, y1⟩ := bounds_u16 w2
  have hm := hr.most
  have hcc := hr.cap
  unfold maxLen at hm
  by_cases hn : 3000 < n
  · go_enter Tryd.func5, Tryd.ntmps5
    go_wp2_with fail
    refine (wakes_any _ hgl).mono ?_
    rintro e w3 ⟨rfl, hk1⟩
    go_wp2
    go_ret
    exact ⟨rfl, hk1⟩
  · go_enter Tryd.func5, Tryd.ntmps5
    go_wp2_with fail
    refine (wakes_any _ hgl).mono ?_
    rintro e w3 ⟨rfl, hk1⟩
    obtain ⟨x, hx⟩ : ∃ x : Nat, min a1 (n : Int) = (x : Int) := ⟨(min a1 (n : Int)).toNat, by omega⟩
    obtain ⟨y, hy⟩ : ∃ y : Nat, max (x : Int) (min a2 (n : Int)) = (y : Int) := ⟨(max (x : Int) (min a2 (n : Int))).toNat, by omega⟩
    have hxy : x ≤ y := by omega
    have hyn : y ≤ n := by omega
    have hr1 := hr.kept0 hk1
    obtain ⟨A1, r1, e1⟩ := hr1.cutTo (P := Tryd.prog) 22 5 Tryd.underlying22 size1b x (x : Int) rfl (by omega)
    obtain ⟨A2, r2, e2⟩ := hr1.cutMid (P := Tryd.prog) 22 5 Tryd.underlying22 size1b x y (x : Int) (y : Int) rfl rfl hxy hyn
    obtain ⟨A3, r3, _, e3⟩ := hr1.cutFrom (P := Tryd.prog) 22 5 Tryd.underlying22 size1b y (y : Int) rfl hyn
    have hpieces : [bs.take x, (bs.drop x).take (y - x), bs.drop y].flatten = bs := by
      have e4 : bs.drop y = (bs.drop x).drop (y - x) := by rw [List.drop_drop]; congr 1; omega
      simp only [List.flatten_cons, List.flatten_nil, List.append_nil]
      rw [e4, List.take_append_drop, List.take_append_drop]
    have H := Lib.hid hpieces
    have hgl1 := hgl.kept0 hk1
    have hlen := hr.len
    have Hlen := Lib.hid hlen
    clear hpieces hlen hgl hr w1 w2
    have hK3 : Kept [] w3 (w3.alloc (.cells #[.slice A1 x c, .slice A2 (y - x) (c - x), .slice A3 (n - y) (c - y)] 22)).drew := ((Kept.refl [] w3).alloc _).drew
    have hL3 := (RdL.three 22 r1 r2 r3).kept0 (Kept.refl [] (w3.alloc (.cells #[.slice A1 x c, .slice A2 (y - x) (c - x), .slice A3 (n - y) (c - y)] 22))).drew
    have hg := fun W x y => run_eqGuard_agg (P := Tryd.prog) W .eql 25 x y (bvs (shaSum bs)).toArray (bvs (shaSum bs)).toArray (by kernel_rfl)
    have heq := fun W => run_equalIn_key (shaSum bs) (shaSum_length bs) W
    go_wp2
    go_region_held3 (fun w' => True) (trivial) (first
      | (go_at_call 11; refine (sums_any _ 3 3 [bs.take x, (bs.drop x).take (y - x), bs.drop y] _ hL3 (hgl1.kept0 hK3) (by rw [H.out]; have := Hlen.out; omega)).mono ?_; rw [H.out]; rintro e w4 ⟨rfl, hk4⟩)
      | (go_at_call 8; refine (sum_any A n c bs _ ((hr1.kept0 hK3).kept0 hk4) ((hgl1.kept0 hK3).kept0 hk4) (by omega)).mono ?_; rintro e w5 ⟨rfl, hk5⟩))
    go_wp2
    go_ret
    exact ⟨rfl, ((hk1.andThen hK3).andThen hk4).andThen hk5⟩
end Go.Proofs.YtbfcafjceanghaaDoor
