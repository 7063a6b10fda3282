/-
  Plain mathematics of layer 3: what a key becomes, the tag. Nothing of the program here.
-/
import Derived.Test.YtckffideobjlfaaDoorShaMath
namespace Go.Proofs.YtckffideobjlfaaDoor
set_option linter.unusedVariables false

def hpad (l : List UInt8) : List UInt8 := l ++ List.replicate (64 - l.length) 0
@[irreducible] def hkey (key : List UInt8) : List UInt8 := hpad (if 64 < key.length then shaSum key else key)
theorem hkey_long {key : List UInt8} (h : 64 < key.length) : hkey key = hpad (shaSum key) := by unfold hkey; rw [if_pos h]
theorem hkey_short {key : List UInt8} (h : key.length ≤ 64) : hkey key = hpad key := by unfold hkey; rw [if_neg (by omega)]
theorem hpad_length {l : List UInt8} (h : l.length ≤ 64) : (hpad l).length = 64 := by
  unfold hpad; rw [List.length_append, List.length_replicate]; omega
theorem hkey_length (key : List UInt8) : (hkey key).length = 64 := by
  by_cases h : 64 < key.length
  · rw [hkey_long h]; exact hpad_length (by rw [shaSum_length]; omega)
  · rw [hkey_short (by omega)]; exact hpad_length (by omega)
@[irreducible] def hx (x : UInt8) (l : List UInt8) : List UInt8 := l.map (· ^^^ x)
theorem hx_eq (x : UInt8) (l : List UInt8) : hx x l = l.map (· ^^^ x) := by unfold hx; rfl
theorem hx_length (x : UInt8) (l : List UInt8) : (hx x l).length = l.length := by rw [hx_eq]; simp
theorem hxk_length (x : UInt8) (key : List UInt8) : (hx x (hkey key)).length = 64 := by rw [hx_length, hkey_length]
@[irreducible] def hTag (key text : List UInt8) : List UInt8 := shaSum (hx 92 (hkey key) ++ shaSum (hx 54 (hkey key) ++ text))
theorem hTag_eq (key text : List UInt8) : hTag key text = shaSum (hx 92 (hkey key) ++ shaSum (hx 54 (hkey key) ++ text)) := by unfold hTag; rfl
theorem hTag_length (key text : List UInt8) : (hTag key text).length = 32 := by rw [hTag_eq]; exact shaSum_length _
theorem hTag_digest {key : List UInt8} (text : List UInt8) (h : 64 < key.length) : hTag (shaSum key) text = hTag key text := by
  have e : hkey (shaSum key) = hkey key := by rw [hkey_long h, hkey_short (by rw [shaSum_length]; omega)]
  rw [hTag_eq, hTag_eq, e]
theorem hTag_noughts {key : List UInt8} (text : List UInt8) (n : Nat) (h : key.length + n ≤ 64) : hTag (key ++ List.replicate n 0) text = hTag key text := by
  have e : hkey (key ++ List.replicate n 0) = hkey key := by
    rw [hkey_short (by rw [List.length_append, List.length_replicate]; omega), hkey_short (by omega)]
    unfold hpad
    rw [List.append_assoc, List.replicate_append_replicate, List.length_append, List.length_replicate]
    congr 2; omega
  rw [hTag_eq, hTag_eq, e]
/-- What the texts of a list are, each behind its length. -/
def told (be4 : Nat → List UInt8) (ls : List (List UInt8)) : List UInt8 := (ls.map fun l => be4 l.length ++ l).flatten
theorem jefe4 : (hTag [74, 101, 102, 101] [119, 104, 97, 116, 32, 100, 111, 32, 121, 97, 32, 119, 97, 110, 116, 32, 102, 111, 114, 32, 110, 111, 116, 104, 105, 110, 103, 63]).take 4 = [91, 220, 193, 70] := by
  rw [hTag_eq, hkey_short (by decide), hx_eq, hx_eq, shaSum_eq, shaSum_eq]
  decide +kernel
end Go.Proofs.YtckffideobjlfaaDoor
