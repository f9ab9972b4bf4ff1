import Derived.Test.YtamiidgpglepcaaGreatDoorDrawU
namespace Go.Proofs.YtamiidgpglepcaaGreatDoor
open Go.RowKit Go.Maps

theorem OwnI.ints_at {w : World} {B n cap : Nat} {a : Option Addr} (h : OwnI w B (.slice a n cap) n) (hn : n ≤ 1000) : ∃ f : Nat → Int, Ints w a n f := by
  obtain ⟨a2, c2, f, hv, hi, _⟩ := h.ints hn
  injection hv with e1 e2 e3
  subst e1; exact ⟨f, hi⟩

end Go.Proofs.YtamiidgpglepcaaGreatDoor
