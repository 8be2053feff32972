import Derived.Deep.Matrix
import Derived.SizedLaws
import Derived.OpenShut
import Derived.Test.YtkejabhjlflknaaMg7
namespace Go.Proofs.Ytkejabhjlflknaa
open Go.RowKit Go.Shelf Go.ChangeShapes Go.WideShapes

theorem weightsAll_mem {H : Type} {P : Program} {e : TypeId} {x : DataW H} {y : Nat} : ∀ {l : List (DataW H)}, x ∈ l → y ∈ DataW.weights P e x → y ∈ DataW.weightsAll P e l
  | [], h, _ => by cases h
  | d :: l, h, hy => by
    unfold DataW.weightsAll
    rcases List.mem_cons.1 h with rfl | h
    · exact List.mem_append_left _ hy
    · exact List.mem_append_right _ (weightsAll_mem h hy)

theorem no_spot {W : World} {b o sp : Nat} {v : Value} (h : W.cell? ((⟨b, o, some sp⟩ : Addr).add 0) = some v) : False := by
  simp [Addr.add, World.cell?] at h
  split at h <;> simp at h

end Go.Proofs.Ytkejabhjlflknaa
