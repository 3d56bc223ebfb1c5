/-
  Texts as lists of bytes; what a walk must not use as a rule is hidden.
-/
import Derived.Test.YtjbalgjdcdmjjaaDoorProg
import Derived.WalkKit
import Derived.WalkSpells
import Derived.WalkLawsBesides
import Derived.Laws.CopyOwn
import Derived.Deep.QuietTactic
import Derived.BigQuiet
namespace Go.Proofs.YtjbalgjdcdmjjaaDoor
open Go.RowKit
theorem hide {p : Prop} (h : p) : Hid p := h
theorem byteAt (s : ByteArray) (l : List UInt8) (hs : s.data.toList = l) (k : Nat) (h : k < s.size) : s[k]'h = l.getD k 0 := by
  subst hs
  have h' : k < s.data.toList.length := by simpa using h
  rw [List.getD_eq_getElem?_getD, List.getElem?_eq_getElem h']
  simp
  rfl
theorem size_of (s : ByteArray) (l : List UInt8) (hs : s.data.toList = l) : s.size = l.length := by subst hs; simp
end Go.Proofs.YtjbalgjdcdmjjaaDoor
