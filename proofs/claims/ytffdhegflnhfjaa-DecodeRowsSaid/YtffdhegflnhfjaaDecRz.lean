/-
  The law DecodeRows.
-/
import Derived.Test.YtffdhegflnhfjaaDecRx
import Derived.Test.YtffdhegflnhfjaaBslW
namespace Go.Proofs.Ytffdhegflnhfjaa
open Go.RowKit
theorem DecodeRows_any (most : Int) (a b : BSl) (w : World) (hmb : -9223372036854775808 ≤ most ∧ most ≤ 9223372036854775807) (ha : a.Ok w) (hb : b.Ok w) :
    Calls Try.prog 7 #[.int .i64 most, .slice a.A a.l.length a.c, .slice b.A b.l.length b.c] w (Rw7P w) := rows_front most a b w hmb ha hb
end Go.Proofs.Ytffdhegflnhfjaa

