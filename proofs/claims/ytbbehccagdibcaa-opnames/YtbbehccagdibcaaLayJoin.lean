/- strings.Join, which lies proved over any program: laid at this program; at a row of one's own. -/
import Derived.Shelf.Strings.OnBuilder
import Derived.Test.YtbbehccagdibcaaChecked
import Derived.Test.YtbbehccagdibcaaQuotes
namespace Go.Proofs.Ytbbehccagdibcaa.J
open Go.Shelf Go.RowKit

/-- Which number the library's functions, types and variables have here. -/
def ren : Ren := ⟨fun | 156 => 82 | 165 => 104 | 166 => 86 | 169 => 88 | 240 => 105 | 241 => 108 | 276 => 109 | 277 => 111 | n => n, fun | 0 => 0 | 3 => 3 | 4 => 4 | 5 => 5 | 9 => 9 | 20 => 20 | 31 => 22 | 37 => 87 | 70 => 93 | 72 => 95 | 75 => 97 | 76 => 98 | 80 => 100 | 127 => 110 | 164 => 115 | n => n, fun | n => n⟩
theorem lay156 : Lays.n156 Try.prog ren := {
  mixed := by kernel_rfl
  f156 := Try.func82.trans (congrArg some (by kernel_rfl))
  f165 := Try.func104.trans (congrArg some (by kernel_rfl))
  f166 := Try.func86.trans (congrArg some (by kernel_rfl))
  f169 := Try.func88.trans (congrArg some (by kernel_rfl))
  f240 := Try.func105.trans (congrArg some (by kernel_rfl))
  f241 := Try.func108.trans (congrArg some (by kernel_rfl))
  f276 := Try.func109.trans (congrArg some (by kernel_rfl))
  f277 := Try.func111.trans (congrArg some (by kernel_rfl))
  t0 := Try.underlying0, a0 := Try.isAgg0, z0 := Try.sizeOf0, v0 := Try.zeroValue0
  t3 := Try.underlying3, a3 := Try.isAgg3, z3 := Try.sizeOf3, v3 := Try.zeroValue3
  t4 := Try.underlying4, a4 := Try.isAgg4, z4 := Try.sizeOf4, v4 := Try.zeroValue4
  t9 := Try.underlying9, a9 := Try.isAgg9, z9 := Try.sizeOf9, v9 := Try.zeroValue9
  t20 := Try.underlying20, a20 := Try.isAgg20, z20 := Try.sizeOf20, v20 := Try.zeroValue20
  t31 := Try.underlying22, a31 := Try.isAgg22, z31 := Try.sizeOf22, v31 := Try.zeroValue22
  t37 := Try.underlying87, a37 := Try.isAgg87, z37 := Try.sizeOf87, v37 := Try.zeroValue87
  t70 := Try.underlying93, a70 := Try.isAgg93, z70 := Try.sizeOf93, v70 := Try.zeroValue93
  t72 := Try.underlying95, a72 := Try.isAgg95, z72 := Try.sizeOf95, v72 := Try.zeroValue95
  t75 := Try.underlying97, a75 := Try.isAgg97, z75 := Try.sizeOf97, v75 := Try.zeroValue97
  t76 := Try.underlying98, a76 := Try.isAgg98, z76 := Try.sizeOf98, v76 := Try.zeroValue98
  t127 := Try.underlying110, a127 := Try.isAgg110, z127 := Try.sizeOf110, v127 := Try.zeroValue110
  t164 := Try.underlying115, a164 := Try.isAgg115, z164 := Try.sizeOf115, v164 := Try.zeroValue115 }
theorem layX : Builder.Extra Try.prog ren := {
  sizeBuilder := by kernel_rfl
  liesBuilder := by kernel_rfl
  t5 := Try.underlying5, a5 := Try.isAgg5, z5 := Try.sizeOf5, v5 := Try.zeroValue5
  infoByte := by kernel_rfl
  cellsByte := by kernel_rfl
  sizeByte := by kernel_rfl
  neB5 := by decide }
end Go.Proofs.Ytbbehccagdibcaa.J
namespace Go.Proofs.Ytbbehccagdibcaa.U
open Go.Shelf Go.RowKit

/-- Texts that lie in a row of one's own, joined. -/
theorem join_own {B : Nat} {u : Value} {ys : List (List UInt8)} {w : World} (sep : List UInt8) (h : w.ownsRow B 9 1 u ys.length (cellsS ys)) (hn : ys.length ≤ 140737488355328) (hlen : (Lib.join ys sep).length ≤ 140737488355328) :
    Calls Try.prog 82 #[u, .string ⟨sep.toArray⟩] w fun e w' => e = .returned (.string ⟨(Lib.join ys sep).toArray⟩) ∧ Below w.heap.size w w' := by
  have hmap : (ys.map fun x => (⟨x.toArray⟩ : ByteArray)).map (·.data.toList) = ys := by
    rw [List.map_map]
    conv => rhs; rw [← List.map_id ys]
    apply List.map_congr_left
    intro x _
    simp
  rcases h.2 with ⟨rfl, h0⟩ | ⟨g, cap, cur, rfl, hB, hg, hle, _⟩
  · obtain rfl : ys = [] := List.eq_nil_of_length_eq_zero h0
    refine (Any.strings_Join_none J.lay156 J.layX none 0 ⟨sep.toArray⟩ w).mono fun e w' ⟨he, hw⟩ => ⟨?_, hw ▸ Below.refl _ _⟩
    rw [he]; rfl
  · have hc := Any.strings_Join J.lay156 J.layX g 0 cap (ys.map fun x => (⟨x.toArray⟩ : ByteArray)) ⟨sep.toArray⟩ w (fun j x hx => by
      have h1 := h.cells rfl j (.string x) (by
        rw [List.getElem?_map] at hx
        obtain ⟨y, hy, rfl⟩ := Option.map_eq_some_iff.1 hx
        simp [cellsS, hy])
      rw [Addr.add_lit] at h1
      exact h1) (heap_lt hg) (by rw [List.length_map]; exact hn) (by rw [List.length_map]; exact hle) (by rw [hmap]; simpa using hlen)
    rw [hmap, List.length_map] at hc
    exact hc

end Go.Proofs.Ytbbehccagdibcaa.U
