/- The mathematics of SHA-256, over lists of bytes and natural numbers. -/
namespace Go.Proofs.YtjcamhekhfokhaaDoor

/-- Words are natural numbers below 2^32. -/
def add32 (a b : Nat) : Nat := (a + b) % 4294967296
def rotr (x n : Nat) : Nat := (x * 2 ^ (32 - n) % 4294967296) ||| (x / 2 ^ n)
def sg0 (x : Nat) : Nat := rotr x 7 ^^^ rotr x 18 ^^^ (x / 8)
def sg1 (x : Nat) : Nat := rotr x 17 ^^^ rotr x 19 ^^^ (x / 1024)
def Sg0 (x : Nat) : Nat := rotr x 2 ^^^ rotr x 13 ^^^ rotr x 22
def Sg1 (x : Nat) : Nat := rotr x 6 ^^^ rotr x 11 ^^^ rotr x 25
def choose (e f g : Nat) : Nat := (e &&& f) ^^^ ((4294967295 - e) &&& g)
def major (a b c : Nat) : Nat := (a &&& b) ^^^ (a &&& c) ^^^ (b &&& c)

def kTab : List Nat := [1116352408, 1899447441, 3049323471, 3921009573, 961987163, 1508970993, 2453635748, 2870763221, 3624381080, 310598401, 607225278, 1426881987, 1925078388, 2162078206, 2614888103, 3248222580, 3835390401, 4022224774, 264347078, 604807628, 770255983, 1249150122, 1555081692, 1996064986, 2554220882, 2821834349, 2952996808, 3210313671, 3336571891, 3584528711, 113926993, 338241895, 666307205, 773529912, 1294757372, 1396182291, 1695183700, 1986661051, 2177026350, 2456956037, 2730485921, 2820302411, 3259730800, 3345764771, 3516065817, 3600352804, 4094571909, 275423344, 430227734, 506948616, 659060556, 883997877, 958139571, 1322822218, 1537002063, 1747873779, 1955562222, 2024104815, 2227730452, 2361852424, 2428436474, 2756734187, 3204031479, 3329325298]
def kN (i : Nat) : Nat := kTab.getD i 0

/-- Byte i of a block. -/
def byteN (b : List UInt8) (i : Nat) : Nat := (b.getD i 0).toNat
def wordN (b : List UInt8) (i : Nat) : Nat := (byteN b (4 * i) * 16777216) ||| (byteN b (4 * i + 1) * 65536) ||| (byteN b (4 * i + 2) * 256) ||| byteN b (4 * i + 3)
def nextW (l : List Nat) (k : Nat) : Nat := add32 (add32 (add32 (l.getD (k - 16) 0) (sg0 (l.getD (k - 15) 0))) (l.getD (k - 7) 0)) (sg1 (l.getD (k - 2) 0))
/-- The first k words of the schedule of a block. -/
def sched (b : List UInt8) : Nat → List Nat
  | 0 => []
  | k + 1 => sched b k ++ [if k < 16 then wordN b k else nextW (sched b k) k]
def schedW (b : List UInt8) (i : Nat) : Nat := (sched b 64).getD i 0

structure S8 where
  (a b c d e f g h : Nat)
def tOf (s : S8) (k w : Nat) : Nat := add32 (add32 (add32 (add32 s.h (Sg1 s.e)) (choose s.e s.f s.g)) k) w
def uOf (s : S8) : Nat := add32 (Sg0 s.a) (major s.a s.b s.c)
def rnd (s : S8) (k w : Nat) : S8 := ⟨add32 (tOf s k w) (uOf s), s.a, s.b, s.c, add32 s.d (tOf s k w), s.e, s.f, s.g⟩
def rounds8 (b : List UInt8) (s : S8) : Nat → S8
  | 0 => s
  | i + 1 => rnd (rounds8 b s i) (kN i) (schedW b i)
def comp (s : S8) (b : List UInt8) : S8 :=
  let r := rounds8 b s 64
  ⟨add32 s.a r.a, add32 s.b r.b, add32 s.c r.c, add32 s.d r.d, add32 s.e r.e, add32 s.f r.f, add32 s.g r.g, add32 s.h r.h⟩
def init8 : S8 := ⟨1779033703, 3144134277, 1013904242, 2773480762, 1359893119, 2600822924, 528734635, 1541459225⟩

/-- n blocks of 64 bytes. -/
def chunks : Nat → List UInt8 → List (List UInt8)
  | 0, _ => []
  | n + 1, l => l.take 64 :: chunks n (l.drop 64)
def padN (n : Nat) : Nat := (119 - n % 64) % 64
def lenBytes (n : Nat) : List UInt8 := (List.range 8).map fun i => UInt8.ofNat (8 * n / 2 ^ (8 * (7 - i)))
def pad (n : Nat) : List UInt8 := 128 :: (List.replicate (padN n) 0 ++ lenBytes n)
def blocksOf (l : List UInt8) : List (List UInt8) := chunks ((l.length + 8) / 64 + 1) (l ++ pad l.length)
def be4 (x : Nat) : List UInt8 := [UInt8.ofNat (x / 16777216), UInt8.ofNat (x / 65536), UInt8.ofNat (x / 256), UInt8.ofNat x]
def bytesOf (s : S8) : List UInt8 := be4 s.a ++ be4 s.b ++ be4 s.c ++ be4 s.d ++ be4 s.e ++ be4 s.f ++ be4 s.g ++ be4 s.h
def sha (l : List UInt8) : List UInt8 := bytesOf ((blocksOf l).foldl comp init8)

theorem sha_len (l : List UInt8) : (sha l).length = 32 := rfl

theorem lenBytes_len (n : Nat) : (lenBytes n).length = 8 := rfl
theorem pad_len (n : Nat) : (pad n).length = padN n + 9 := by simp [pad, lenBytes_len]
theorem flat_len (l : List UInt8) : (l ++ pad l.length).length = 64 * ((l.length + 8) / 64 + 1) := by
  rw [List.length_append, pad_len, padN]; omega

theorem add32_lt (a b : Nat) : add32 a b < 4294967296 := Nat.mod_lt _ (by decide)
theorem rotr_lt (x n : Nat) (h : x < 4294967296) : rotr x n < 4294967296 :=
  Nat.or_lt_two_pow (n := 32) (Nat.mod_lt _ (by decide)) (Nat.lt_of_le_of_lt (Nat.div_le_self _ _) h)
theorem xor_lt {a b : Nat} (ha : a < 4294967296) (hb : b < 4294967296) : a ^^^ b < 4294967296 := Nat.xor_lt_two_pow (n := 32) ha hb
theorem or_lt {a b : Nat} (ha : a < 4294967296) (hb : b < 4294967296) : a ||| b < 4294967296 := Nat.or_lt_two_pow (n := 32) ha hb
theorem and_lt {a b : Nat} (ha : a < 4294967296) : a &&& b < 4294967296 := Nat.lt_of_le_of_lt Nat.and_le_left ha
theorem kN_lt (i : Nat) : kN i < 4294967296 := by
  unfold kN
  by_cases h : i < 64
  · have hall : ∀ j : Fin 64, kTab.getD j.val 0 < 4294967296 := by decide +kernel
    exact hall ⟨i, h⟩
  · rw [List.getD_eq_getElem?_getD, List.getElem?_eq_none (by simpa [kTab] using (by omega : 64 ≤ i))]; decide

theorem h0 : sha [] = [0xe3, 0xb0, 0xc4, 0x42, 0x98, 0xfc, 0x1c, 0x14, 0x9a, 0xfb, 0xf4, 0xc8, 0x99, 0x6f, 0xb9, 0x24, 0x27, 0xae, 0x41, 0xe4, 0x64, 0x9b, 0x93, 0x4c, 0xa4, 0x95, 0x99, 0x1b, 0x78, 0x52, 0xb8, 0x55] := by decide +kernel
end Go.Proofs.YtjcamhekhfokhaaDoor
