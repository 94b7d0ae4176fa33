/- What is asked of package net's Users, as the document says it. -/
import Derived.Test.YtdegbfgnbobgoacNetSaid
namespace Go.Proofs.Ytdegbfgnbobgoac
namespace Ns
open Go.RowKit Fr

def UsersSaid : Prop := ∀ (Q : Nat → Prop) (caps : List Int) (paths : List (List Int)) (link : Int) (v : Value) (w : World), NetAt Q w v caps paths →
  Calls Try.prog 52 #[v, .int .i64 link] w fun e w' => ∃ x, e = .returned (.tuple #[x, errV (usersE caps paths link)]) ∧
    IntsAt (fun b => w.heap.size ≤ b) w' x (okL (usersE caps paths link) (users paths link)) ∧ Below w.heap.size w w'
end Ns
end Go.Proofs.Ytdegbfgnbobgoac
