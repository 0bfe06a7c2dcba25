/- The laws' walks, their premises in the order in which the frame hands them. -/
import Derived.Test.YtcmidcpogcejfaaLTells
import Derived.Test.YtcmidcpogcejfaaLRow
import Derived.Test.YtcmidcpogcejfaaLParses
namespace Go.Proofs.Ytcmidcpogcejfaa
open Go.RowKit

theorem pathTells_walk (va : Value) (xs : List (List UInt8)) (vb : Value) (ys : List (List UInt8)) (w : World) (n0 : xs.length ≤ maxLen) (z0 : ∀ x ∈ xs, x.length ≤ maxLen) (s0 : U.strsAt w va xs) (n1 : ys.length ≤ maxLen) (z1 : ∀ x ∈ ys, x.length ≤ maxLen) (s1 : U.strsAt w vb ys) :
    Calls Try.prog 3 #[va, vb] w fun e w' => e = .returned (.bool true) ∧ Below w.heap.size w w' := U.pathTells_walk va vb xs ys w n0 n1 z0 z1 s0 s1
theorem pathParses_walk (s : ByteArray) (w : World) (hs : s.size ≤ maxLen) : Calls Try.prog 4 #[.string s] w fun e w' => e = .returned (.bool true) ∧ Below w.heap.size w w' := U.pathParses_walk s w hs
theorem pathRow_walk (va : Value) (xs : List (List UInt8)) (vb : Value) (ys : List (List UInt8)) (vc : Value) (zs : List (List UInt8)) (w : World) (n0 : xs.length ≤ maxLen) (z0 : ∀ x ∈ xs, x.length ≤ maxLen) (s0 : U.strsAt w va xs) (n1 : ys.length ≤ maxLen) (z1 : ∀ x ∈ ys, x.length ≤ maxLen) (s1 : U.strsAt w vb ys) (n2 : zs.length ≤ maxLen) (z2 : ∀ x ∈ zs, x.length ≤ maxLen) (s2 : U.strsAt w vc zs) :
    Calls Try.prog 7 #[va, vb, vc] w fun e w' => e = .returned (.bool true) ∧ Below w.heap.size w w' := U.pathRow_walk va vb vc xs ys zs w n0 n1 n2 z0 z1 z2 s0 s1 s2

end Go.Proofs.Ytcmidcpogcejfaa
