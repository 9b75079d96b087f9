/-
  The document's own Right of a value tells whether a value can be, as Right of package value does; Test of package value and the document's own Test tell the same, at every input and in every world; nothing that was there is changed.
  No condition but that a text is no longer than a text can be.
-/
import Derived.Test.YtojpccngcicbmaaMake
namespace Go.Proofs.Ytojpccngcicbmaa
open Go.RowKit

theorem empty_size (t : ByteArray) (h : t.toList = []) : t.size = 0 := by
  rw [ByteArray.toList_eq] at h
  obtain ⟨⟨l⟩⟩ := t
  have h' : l = [] := h
  subst h'
  rfl
theorem nonempty_size (t : ByteArray) (h : t.toList.isEmpty = false) : ¬ t.size = 0 := by
  rw [ByteArray.toList_eq] at h
  obtain ⟨⟨l⟩⟩ := t
  cases l
  · simp at h
  · simp [ByteArray.size]

end Go.Proofs.Ytojpccngcicbmaa
