/- What is asked of package net's Add, as the document says it. -/
import Derived.Test.YtmoeaaocpnoibabNetSaid
namespace Go.Proofs.Ytmoeaaocpnoibab
namespace Ns
open Go.RowKit Fr

def AddSaid : Prop := ∀ (Q : Nat → Prop) (caps : List Int) (paths : List (List Int)) (path : List Int) (v p : Value) (w : World), NetAt Q w v caps paths → IntsAt Q w p path →
  Calls Try.prog 9 #[v, p] w fun e w' => ∃ x, e = .returned (.tuple #[x, errV (addE caps paths path)]) ∧
    NetAt (fun b => w.heap.size ≤ b) w' x (okL (addE caps paths path) caps) (okL (addE caps paths path) (paths ++ [path])) ∧ Below w.heap.size w w'
end Ns
end Go.Proofs.Ytmoeaaocpnoibab
