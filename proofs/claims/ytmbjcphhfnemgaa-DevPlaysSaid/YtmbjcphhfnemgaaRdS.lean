/- DevPlays, whatever comes in. -/
import Derived.Test.YtmbjcphhfnemgaaRdQ
import Derived.Test.YtmbjcphhfnemgaaRdR
namespace Go.Proofs.Ytmbjcphhfnemgaa
open Go.RowKit Go.Maps

theorem devPlays_in {w : World} (s : Int) (hs : (Lit.int .i64 s).wf = true) {va : Value} {L : List AM} (hL : ActsS w va L) :
    Calls Try.prog 3 #[.int .i64 s, va] w fun e w' => e = .returned (.bool true) ∧ Below w.heap.size w w' :=
  devPlays_walk (fun d k hN hsl h0 hw => does_write d k hN hsl h0 hw) (w64_of_wf hs) hL
end Go.Proofs.Ytmbjcphhfnemgaa
