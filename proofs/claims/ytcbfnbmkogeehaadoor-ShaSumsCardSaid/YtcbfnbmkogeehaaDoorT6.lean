/- A new block of eight words. -/
import Derived.Test.YtcbfnbmkogeehaaDoorS4
import Derived.Test.YtcbfnbmkogeehaaDoorR2
namespace Go.Proofs.YtcbfnbmkogeehaaDoor
open Go.RowKit

def NV (B : Nat) (l : List UInt32) (v : Value) (X : World) : Prop := ∃ vb, v = .slice (some ⟨vb, 0, none⟩) 8 8 ∧ B ≤ vb ∧ Blk X vb 52 (l.map W).toArray
theorem NV.up {B : Nat} {l : List UInt32} {v : Value} {X Y : World} (h : NV B l v X) (hb : Below X.heap.size X Y) : NV B l v Y := by
  obtain ⟨vb, e, h0, h1⟩ := h
  exact ⟨vb, e, h0, h1.kept hb h1.lt⟩
def spN (B : Nat) (l : List UInt32) : Seq.Sp (fun a b => Below a.heap.size a b) := ⟨fun x X => NV B l x X, fun _ _ _ h hx => h.up hx⟩
def spIs {R : World → World → Prop} (v : Value) : Seq.Sp R := ⟨fun x _ => x = v, fun _ _ _ h _ => h⟩
theorem kt_get (j : Nat) (h : j < 64) : ((kt.map W).toArray)[j]? = some (W (kt.getD j 0)) := by
  have hl : kt.length = 64 := rfl
  simp [List.getD, hl, h]
theorem st_get (s : St) (j : Nat) (h : j < 8) : ((s.list.map W).toArray)[j]? = some (W (s.list.getD j 0)) := by
  have hl : s.list.length = 8 := rfl
  simp [List.getD, hl, h]
end Go.Proofs.YtcbfnbmkogeehaaDoor
