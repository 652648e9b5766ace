/- Blocks that are all alike: the tables, and one step of so many blocks. -/
import Derived.Test.YtoaaaonpmcebfaaDoorFast
namespace Go.Proofs.YtoaaaonpmcebfaaDoor
open Go.RowKit
namespace Fast

def KN : List Nat := [1116352408, 1899447441, 3049323471, 3921009573, 961987163, 1508970993, 2453635748, 2870763221, 3624381080, 310598401, 607225278, 1426881987, 1925078388, 2162078206, 2614888103, 3248222580, 3835390401, 4022224774, 264347078, 604807628, 770255983, 1249150122, 1555081692, 1996064986, 2554220882, 2821834349, 2952996808, 3210313671, 3336571891, 3584528711, 113926993, 338241895, 666307205, 773529912, 1294757372, 1396182291, 1695183700, 1986661051, 2177026350, 2456956037, 2730485921, 2820302411, 3259730800, 3345764771, 3516065817, 3600352804, 4094571909, 275423344, 430227734, 506948616, 659060556, 883997877, 958139571, 1322822218, 1537002063, 1747873779, 1955562222, 2024104815, 2227730452, 2361852424, 2428436474, 2756734187, 3204031479, 3329325298]
def WN : List Nat := [1633771873, 1633771873, 1633771873, 1633771873, 1633771873, 1633771873, 1633771873, 1633771873, 1633771873, 1633771873, 1633771873, 1633771873, 1633771873, 1633771873, 1633771873, 1633771873, 4127079996, 4127079996, 845026631, 845026631, 562127449, 562127449, 4142485024, 2340825851, 2097165901, 4202070679, 1214676619, 2864781893, 169889552, 2638362293, 2986790745, 619170806, 2545628807, 1752194553, 3897866632, 1354584167, 2037939211, 3798754737, 3125072781, 2053181897, 1764381550, 231544716, 3582021090, 2147669598, 1900325583, 2688439274, 112371858, 1110188099, 2407788112, 4108513933, 2210941747, 4027291822, 2910535786, 3783077996, 2655981588, 2366978167, 612225234, 1494184812, 815738812, 1069923231, 447001511, 943759201, 3929715958, 242742810]
/-- A block of letters. -/
def l64 : List (BitVec 8) := List.replicate 64 97#8
def mk (a b c d e f g h : Nat) : St := ⟨BitVec.ofNat 32 a, BitVec.ofNat 32 b, BitVec.ofNat 32 c, BitVec.ofNat 32 d, BitVec.ofNat 32 e, BitVec.ofNat 32 f, BitVec.ofNat 32 g, BitVec.ofNat 32 h⟩
theorem kn_eq : KC.map (·.toNat) = KN := by decide +kernel
theorem wn_eq : (sched l64).map (·.toNat) = WN := by decide +kernel
theorem nat32 (a : Nat) (h : a < 4294967296) : (BitVec.ofNat 32 a).toNat = a := by rw [BitVec.toNat_ofNat]; exact Nat.mod_eq_of_lt h
theorem of32 (x : BitVec 32) (a : Nat) (h : x.toNat = a) : x = BitVec.ofNat 32 a := by rw [← h]; simp
theorem step (n a b c d e f g h a' b' c' d' e' f' g' h' : Nat)
    (hb : a < 4294967296 ∧ b < 4294967296 ∧ c < 4294967296 ∧ d < 4294967296 ∧ e < 4294967296 ∧ f < 4294967296 ∧ g < 4294967296 ∧ h < 4294967296)
    (hr : blocks KN WN n a b c d e f g h = [a', b', c', d', e', f', g', h']) : takes l64 n (mk a b c d e f g h) = mk a' b' c' d' e' f' g' h' := by
  obtain ⟨h1, h2, h3, h4, h5, h6, h7, h8⟩ := hb
  have q := blocks_eq l64 n (mk a b c d e f g h)
  rw [kn_eq, wn_eq] at q
  simp only [mk, nat32 _ h1, nat32 _ h2, nat32 _ h3, nat32 _ h4, nat32 _ h5, nat32 _ h6, nat32 _ h7, nat32 _ h8] at q
  rw [hr] at q
  revert q
  show _ = List.map _ (St.list (takes l64 n (mk a b c d e f g h))) → _
  generalize takes l64 n (mk a b c d e f g h) = t
  intro q
  simp only [St.list, List.map_cons, List.map_nil, List.cons.injEq, and_true] at q
  obtain ⟨q1, q2, q3, q4, q5, q6, q7, q8⟩ := q
  cases t
  simp only [mk, St.mk.injEq]
  exact ⟨of32 _ _ q1.symm, of32 _ _ q2.symm, of32 _ _ q3.symm, of32 _ _ q4.symm, of32 _ _ q5.symm, of32 _ _ q6.symm, of32 _ _ q7.symm, of32 _ _ q8.symm⟩

end Fast
end Go.Proofs.YtoaaaonpmcebfaaDoor
