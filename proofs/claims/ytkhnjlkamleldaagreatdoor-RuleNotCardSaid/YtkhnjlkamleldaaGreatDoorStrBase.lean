/- Texts as lists of bytes, and back. -/
import Derived.Test.YtkhnjlkamleldaaGreatDoorGives
namespace Go.Proofs.YtkhnjlkamleldaaGreatDoor
namespace D
open Go.RowKit

theorem ba_ext {a b : ByteArray} (h : a.data.toList = b.data.toList) : a = b := ByteArray.ext (Array.ext' h)
theorem ba_size (b : ByteArray) : b.size = b.data.toList.length := by simp
/-- bytes as a text -/
abbrev str (l : List UInt8) : ByteArray := ⟨l.toArray⟩
theorem str_data (l : List UInt8) : (str l).data.toList = l := by simp
theorem str_eq {b : ByteArray} {l : List UInt8} (h : b.data.toList = l) : b = str l := ba_ext (by rw [h, str_data])
theorem ret_str {a b : ByteArray} (h : a = b) : Ending.returned (.string a) = .returned (.string b) := by rw [h]
theorem toList_ne {a b : ByteArray} (h : a ≠ b) : (a.toList == b.toList) = false ∧ (a.toList != b.toList) = true := by
  have : a.toList ≠ b.toList := fun e => h (by
    rw [ByteArray.toList_eq, ByteArray.toList_eq] at e
    exact ba_ext e)
  exact ⟨by simpa using this, by simpa using this⟩
end D
end Go.Proofs.YtkhnjlkamleldaaGreatDoor
