/- strings.Join, which lies proved over any program: laid at this program; at a row of one's own. -/
import Derived.Shelf.Strings.OnBuilder
import Derived.Test.YtghkjbekjkejpaaGreatChecked
import Derived.Test.YtghkjbekjkejpaaGreatNamesAll
namespace Go.Proofs.YtghkjbekjkejpaaGreat.J
open Go.Shelf Go.RowKit

/-- Which number the library's functions, types and variables have here. -/
def ren : Ren := ⟨fun | 156 => 83 | 165 => 101 | 166 => 24 | 169 => 26 | 240 => 52 | 241 => 111 | 276 => 78 | 277 => 116 | n => n, fun | 0 => 0 | 3 => 3 | 4 => 4 | 5 => 5 | 9 => 9 | 20 => 20 | 31 => 65 | 37 => 51 | 70 => 50 | 72 => 53 | 75 => 55 | 76 => 56 | 80 => 59 | 127 => 84 | 164 => 104 | n => n, fun | n => n⟩
theorem lay156 : Lays.n156 Tryz.prog ren := {
  mixed := by kernel_rfl
  f156 := Tryz.func83.trans (congrArg some (by kernel_rfl))
  f165 := Tryz.func101.trans (congrArg some (by kernel_rfl))
  f166 := Tryz.func24.trans (congrArg some (by kernel_rfl))
  f169 := Tryz.func26.trans (congrArg some (by kernel_rfl))
  f240 := Tryz.func52.trans (congrArg some (by kernel_rfl))
  f241 := Tryz.func111.trans (congrArg some (by kernel_rfl))
  f276 := Tryz.func78.trans (congrArg some (by kernel_rfl))
  f277 := Tryz.func116.trans (congrArg some (by kernel_rfl))
  t0 := Tryz.underlying0, a0 := Tryz.isAgg0, z0 := Tryz.sizeOf0, v0 := Tryz.zeroValue0
  t3 := Tryz.underlying3, a3 := Tryz.isAgg3, z3 := Tryz.sizeOf3, v3 := Tryz.zeroValue3
  t4 := Tryz.underlying4, a4 := Tryz.isAgg4, z4 := Tryz.sizeOf4, v4 := Tryz.zeroValue4
  t9 := Tryz.underlying9, a9 := Tryz.isAgg9, z9 := Tryz.sizeOf9, v9 := Tryz.zeroValue9
  t20 := Tryz.underlying20, a20 := Tryz.isAgg20, z20 := Tryz.sizeOf20, v20 := Tryz.zeroValue20
  t31 := Tryz.underlying65, a31 := Tryz.isAgg65, z31 := Tryz.sizeOf65, v31 := Tryz.zeroValue65
  t37 := Tryz.underlying51, a37 := Tryz.isAgg51, z37 := Tryz.sizeOf51, v37 := Tryz.zeroValue51
  t70 := Tryz.underlying50, a70 := Tryz.isAgg50, z70 := Tryz.sizeOf50, v70 := Tryz.zeroValue50
  t72 := Tryz.underlying53, a72 := Tryz.isAgg53, z72 := Tryz.sizeOf53, v72 := Tryz.zeroValue53
  t75 := Tryz.underlying55, a75 := Tryz.isAgg55, z75 := Tryz.sizeOf55, v75 := Tryz.zeroValue55
  t76 := Tryz.underlying56, a76 := Tryz.isAgg56, z76 := Tryz.sizeOf56, v76 := Tryz.zeroValue56
  t127 := Tryz.underlying84, a127 := Tryz.isAgg84, z127 := Tryz.sizeOf84, v127 := Tryz.zeroValue84
  t164 := Tryz.underlying104, a164 := Tryz.isAgg104, z164 := Tryz.sizeOf104, v164 := Tryz.zeroValue104 }
theorem layX : Builder.Extra Tryz.prog ren := {
  sizeBuilder := by kernel_rfl
  liesBuilder := by kernel_rfl
  t5 := Tryz.underlying5, a5 := Tryz.isAgg5, z5 := Tryz.sizeOf5, v5 := Tryz.zeroValue5
  infoByte := by kernel_rfl
  cellsByte := by kernel_rfl
  sizeByte := by kernel_rfl
  neB5 := by decide }
end Go.Proofs.YtghkjbekjkejpaaGreat.J
namespace Go.Proofs.YtghkjbekjkejpaaGreat.U
open Go.Shelf Go.RowKit

/-- Texts that lie in a row of one's own, joined. -/
theorem join_own {B : Nat} {u : Value} {ys : List (List UInt8)} {w : World} (sep : List UInt8) (h : w.ownsRow B 9 1 u ys.length (cellsS ys)) (hn : ys.length ≤ 140737488355328) (hlen : (Lib.join ys sep).length ≤ 140737488355328) :
    Calls Tryz.prog 83 #[u, .string ⟨sep.toArray⟩] w fun e w' => e = .returned (.string ⟨(Lib.join ys sep).toArray⟩) ∧ Below w.heap.size w w' := by
  have hmap : (ys.map fun x => (⟨x.toArray⟩ : ByteArray)).map (·.data.toList) = ys := by
    rw [List.map_map]
    conv => rhs; rw [← List.map_id ys]
    apply List.map_congr_left
    intro x _
    simp
  rcases h.2 with ⟨rfl, h0⟩ | ⟨g, cap, cur, rfl, hB, hg, hle, _⟩
  · obtain rfl : ys = [] := List.eq_nil_of_length_eq_zero h0
    refine (Any.strings_Join_none J.lay156 J.layX none 0 ⟨sep.toArray⟩ w).mono fun e w' ⟨he, hw⟩ => ⟨?_, hw ▸ Below.refl _ _⟩
    rw [he]; rfl
  · have hc := Any.strings_Join J.lay156 J.layX g 0 cap (ys.map fun x => (⟨x.toArray⟩ : ByteArray)) ⟨sep.toArray⟩ w (fun j x hx => by
      have h1 := h.cells rfl j (.string x) (by
        rw [List.getElem?_map] at hx
        obtain ⟨y, hy, rfl⟩ := Option.map_eq_some_iff.1 hx
        simp [cellsS, hy])
      rw [Addr.add_lit] at h1
      exact h1) (heap_lt hg) (by rw [List.length_map]; exact hn) (by rw [List.length_map]; exact hle) (by rw [hmap]; simpa using hlen)
    rw [hmap, List.length_map] at hc
    exact hc

end Go.Proofs.YtghkjbekjkejpaaGreat.U
