/- What the functions of an operation answer, said of the operation as one thing. -/
import Derived.Test.YtghkjbekjkejpaaTxnMem
import Derived.Test.YtghkjbekjkejpaaCovers
import Derived.Test.YtghkjbekjkejpaaRefCheck
import Derived.Test.YtghkjbekjkejpaaMay
namespace Go.Proofs.Ytghkjbekjkejpaa.O
open Go.RowKit

/-- Few, and short ones. -/
def tshort (t : Tx.Txn) : Bool := decide (t.ops.length ≤ 20) && t.ops.all Os.short
theorem short_parts {o : Os.Op} (h : Os.short o = true) : (o.p.length ≤ 12 ∧ ∀ x ∈ o.p, x.length ≤ 120) ∧ o.vs.length ≤ 200 ∧ o.l.length ≤ 300 := by
  have h1 : (Pt.short o.p = true ∧ o.vs.length ≤ 200) ∧ o.l.length ≤ 300 := by simpa [Os.short] using h
  exact ⟨Pt.short_iff h1.1.1, h1.1.2, h1.2⟩
theorem tshort_parts {t : Tx.Txn} (h : tshort t = true) : t.ops.length ≤ 20 ∧ ∀ o ∈ t.ops, Os.short o = true := by
  simpa [tshort] using h
section
variable (o : Os.Op) (pv sv : Value) (w : World)
theorem oshort (hw : opWide o) (hp : U.strsAt w pv o.p) (hs : refsIn w sv o.l) : Calls Try.prog 24 #[oV o pv sv] w fun e w' => e = .returned (.bool (Os.short o)) ∧ Below w.heap.size w w' :=
  refShort_any o.k pv o.vk o.vn o.vs o.n sv o.p o.l w hw.1 hw.2 hp hs
theorem ocheck (h : Os.short o = true) (hp : U.strsAt w pv o.p) (hs : refsIn w sv o.l) : Calls Try.prog 54 #[oV o pv sv] w fun e w' => e = .returned (.int .i64 (Os.check o : Nat)) ∧ Below w.heap.size w w' :=
  check_any o.k pv o.vk o.vn o.vs o.n sv o.p o.l w (by have := short_parts h; omega) (by have := short_parts h; omega) hp hs
theorem orcheck (h : Os.short o = true) (hp : U.strsAt w pv o.p) (hs : refsIn w sv o.l) : Calls Try.prog 27 #[oV o pv sv] w fun e w' => e = .returned (.int .i64 (Os.check o : Nat)) ∧ Below w.heap.size w w' :=
  refCheck_any o.k pv o.vk o.vn o.vs o.n sv o.p o.l w (by have := short_parts h; omega) (fun x hx => by have := (short_parts h).1.2 x hx; omega) (by have := short_parts h; omega) (by have := short_parts h; omega) hp hs
theorem ogone (h : Os.short o = true) (hp : U.strsAt w pv o.p) (hs : refsIn w sv o.l) : Calls Try.prog 53 #[oV o pv sv] w fun e w' => e = .returned (.bool (Os.gone o)) ∧ Below w.heap.size w w' :=
  gone_any o.k pv o.vk o.vn o.vs o.n sv o.p o.l w (by have := short_parts h; omega) (by have := short_parts h; omega) hp hs
theorem orgone (hp : U.strsAt w pv o.p) (hs : refsIn w sv o.l) : Calls Try.prog 28 #[oV o pv sv] w fun e w' => e = .returned (.bool (Os.gone o)) ∧ Below w.heap.size w w' :=
  refGone_any o.k pv o.vk o.vn o.vs o.n sv o.p o.l w hp hs
theorem ocode (h : Os.check o = 0 ∨ Os.gone o = true) (hp : U.strsAt w pv o.p) (hs : refsIn w sv o.l) : Calls Try.prog 41 #[oV o pv sv] w fun e w' => e = .returned (.string ⟨(Os.code o).toArray⟩) ∧ Below w.heap.size w w' :=
  code_may o.k pv o.vk o.vn o.vs o.n sv o.p o.l w hp hs h
theorem orcode (h : Os.check o = 0 ∨ Os.gone o = true) (hp : U.strsAt w pv o.p) (hs : refsIn w sv o.l) : Calls Try.prog 45 #[oV o pv sv] w fun e w' => e = .returned (.string ⟨(Os.code o).toArray⟩) ∧ Below w.heap.size w w' :=
  refCode_may o.k pv o.vk o.vn o.vs o.n sv o.p o.l w hp hs h
variable (o' : Os.Op) (pv' sv' : Value)
theorem osame (h : Os.short o = true) (hp : U.strsAt w pv o.p) (hs : refsIn w sv o.l) (hp' : U.strsAt w pv' o'.p) (hs' : refsIn w sv' o'.l) : Calls Try.prog 36 #[oV o pv sv, oV o' pv' sv'] w fun e w' => e = .returned (.bool (Os.same o o')) ∧ Below w.heap.size w w' :=
  same_any o.k pv o.vk o.vn o.vs o.n sv o'.k pv' o'.vk o'.vn o'.vs o'.n sv' o.p o'.p o.l o'.l w (by have := short_parts h; omega) (by have := short_parts h; omega) hp hp' hs hs'
theorem orsame (h : Os.short o = true) (hp : U.strsAt w pv o.p) (hs : refsIn w sv o.l) (hp' : U.strsAt w pv' o'.p) (hs' : refsIn w sv' o'.l) : Calls Try.prog 37 #[oV o pv sv, oV o' pv' sv'] w fun e w' => e = .returned (.bool (Os.same o o')) ∧ Below w.heap.size w w' :=
  refSame_any o.k pv o.vk o.vn o.vs o.n sv o'.k pv' o'.vk o'.vn o'.vs o'.n sv' o.p o'.p o.l o'.l w (by have := short_parts h; omega) (by have := short_parts h; omega) hp hp' hs hs'
end
end Go.Proofs.Ytghkjbekjkejpaa.O
