/-
  The document's memtable: Add, whatever lies there.
-/
import Derived.Test.YtbdgdigpnfpnhaaR6d
import Derived.Test.YtbdgdigpnfpnhaaR6e
namespace Go.Proofs.Ytbdgdigpnfpnhaa.Q
open Go.RowKit

theorem radd_any {base : Nat} {w : World} {b : Nat} {hv lv tv : Value} {hs : List Int} {es : List Mm.Ent} {ts : List Int} (h : RtAt base w b hv lv tv hs es ts) (hbase : base ≤ w.heap.size) (hn : es.length ≤ 1000) (hh : hs.length ≤ 1000) (e : Mm.Ent) : Calls Try.prog 16 #[.pointer (some ⟨b, 0, none⟩), entV e] w fun r w' => AddOut base w b hv lv tv hs es ts e r w' := by
  by_cases hs0 : hs = []
  · rcases h.both with ⟨h1, h2⟩ | ⟨gl, lc, gt, tc, h1, h2⟩
    · exact radd_none_new h hbase hn hh hs0 h1 h2 e
    · exact radd_none_old h hbase hn hh hs0 gl lc gt tc h1 h2 e
  · rcases h.both with ⟨h1, h2⟩ | ⟨gl, lc, gt, tc, h1, h2⟩
    · exact radd_some_new h hbase hn hh hs0 h1 h2 e
    · exact radd_some_old h hbase hn hh hs0 gl lc gt tc h1 h2 e
end Go.Proofs.Ytbdgdigpnfpnhaa.Q
