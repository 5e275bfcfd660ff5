package treehead_test

import (
	"strings"
	"testing"

	"treehead/api"
	"treehead/treehead"
)

func checkEvidence(t *testing.T, key int, one, two, want string, wantErr api.Errno) {
	t.Helper()
	if got, err := treehead.Evidence(key, one, two); got != want || err != wantErr {
		t.Errorf("P9: Evidence(%d, %.40x, %.40x) = %x, %d, want %x, %d", key, one, two, got, err, want, wantErr)
	}
}

func checkConvicts(t *testing.T, key int, evidence string, want api.Errno) {
	t.Helper()
	if got := treehead.Convicts(key, evidence); got != want {
		t.Errorf("P9: Convicts(%d, %.60x) = %d, want %d", key, evidence, got, want)
	}
}

func TestP9EvidenceInWhateverOrder(t *testing.T) {
	roots := []string{"0000", "0001", "0fff", "1000", "9999", "999a", "a000", "abcd", "abce", "f000", "fff0", "ffff"}
	for size := range 41 {
		for i, lesser := range roots {
			for _, greater := range roots[i+1:] {
				secret := 1 + (size*97+i)%1018
				one, two := signed(secret, 10, size, lesser), signed(secret, 20, size, greater)
				checkEvidence(t, keyOf(secret), one, two, "V"+one+two, api.OK)
				checkEvidence(t, keyOf(secret), two, one, "V"+one+two, api.OK)
				checkConvicts(t, keyOf(secret), "V"+one+two, api.OK)
				checkConvicts(t, keyOf(secret), "V"+two+one, api.ErrBytes)
			}
		}
	}
}

func TestP9EvidenceOfABookWithTwoEnds(t *testing.T) {
	for n := 1; n <= 40; n++ {
		leaves := numbered(n)
		one := headOf(leaves)
		leaves[n-1] = "another"
		two := headOf(leaves)
		first, _ := treehead.Sign(7, 1018, one)
		second, _ := treehead.Sign(7, 1, two)
		key, _ := treehead.Key(7)
		found, err := treehead.Evidence(key, first, second)
		if err != api.OK || len(found) != 23 {
			t.Errorf("P9: Evidence of %v and %v = %x, %d", one, two, found, err)
		}
		checkEvidence(t, key, second, first, found, api.OK)
		checkConvicts(t, key, found, api.OK)
		checkConvicts(t, keyOf(8), found, wantConvicts(keyOf(8), found))
	}
}

func TestP9EvidenceOfTheSame(t *testing.T) {
	one, again := signed(5, 9, 3, "c016"), signed(5, 10, 3, "c016")
	checkEvidence(t, 1024, one, one, "", api.ErrSame)
	checkEvidence(t, 1024, one, again, "", api.ErrSame)
	checkEvidence(t, 1024, again, one, "", api.ErrSame)
	checkConvicts(t, 1024, "V"+one+one, api.ErrBytes)
	checkConvicts(t, 1024, "V"+one+again, api.ErrBytes)
	checkConvicts(t, 1024, "V"+again+one, api.ErrBytes)
}

func TestP9EvidenceOfOtherSizes(t *testing.T) {
	for _, sizes := range [][2]int{{0, 1}, {3, 4}, {39, 40}, {0, 40}} {
		for _, root := range []string{"c016", "0000", "ffff"} {
			one, two := signed(5, 9, sizes[0], "c016"), signed(5, 10, sizes[1], root)
			checkEvidence(t, 1024, one, two, "", api.ErrOther)
			checkEvidence(t, 1024, two, one, "", api.ErrOther)
			checkConvicts(t, 1024, "V"+one+two, api.ErrBytes)
			checkConvicts(t, 1024, "V"+two+one, api.ErrBytes)
		}
	}
}

func TestP9EvidenceErrorsInOrder(t *testing.T) {
	good, other, longer := signed(5, 9, 3, "aaaa"), signed(6, 9, 3, "bbbb"), signed(5, 9, 4, "aaaa")
	torn := good[:10]
	for _, c := range []struct {
		one, two string
		want     api.Errno
	}{
		{other, good, api.ErrSign},
		{good, other, api.ErrSign},
		{other, torn, api.ErrSign},
		{torn, other, api.ErrBytes},
		{good, torn, api.ErrBytes},
		{torn, good, api.ErrBytes},
		{other, longer, api.ErrSign},
		{longer, other, api.ErrSign},
		{longer, torn, api.ErrBytes},
		{other, other, api.ErrSign},
		{torn, torn, api.ErrBytes},
		{longer, good, api.ErrOther},
		{longer, longer, api.ErrSame},
		{good + "x", good, api.ErrBytes},
		{good, strings.Repeat("x", 5000000), api.ErrBytes},
		{signed(5, 9, 41, "aaaa"), signed(5, 9, 41, "bbbb"), api.ErrBytes},
		{signed(5, 9, 3, "aaaA"), signed(5, 9, 3, "aaaB"), api.ErrBytes},
	} {
		checkEvidence(t, 1024, c.one, c.two, "", c.want)
		for _, key := range noKeys {
			checkEvidence(t, key, c.one, c.two, "", api.ErrKey)
		}
	}
}

func TestP9ConvictsErrorsInOrder(t *testing.T) {
	one, two := signed(5, 9, 3, "aaaa"), signed(5, 10, 3, "bbbb")
	otherOne, otherTwo := signed(6, 9, 3, "aaaa"), signed(6, 10, 3, "bbbb")
	for _, c := range []struct {
		evidence string
		want     api.Errno
	}{
		{"V" + otherOne + two, api.ErrSign},
		{"V" + one + otherTwo, api.ErrSign},
		{"V" + otherOne + otherTwo, api.ErrSign},
		{"V" + otherTwo + otherOne, api.ErrBytes},
		{"V" + otherOne + signed(6, 9, 4, "bbbb"), api.ErrBytes},
		{"V" + otherOne + otherOne, api.ErrBytes},
		{"V" + otherOne + otherTwo[:10], api.ErrBytes},
		{"V" + otherOne + "h" + otherTwo[1:], api.ErrBytes},
		{"v" + otherOne + otherTwo, api.ErrBytes},
		{"V" + otherOne + two + "x", api.ErrBytes},
		{"V" + signed(5, 9, 41, "aaaa") + signed(5, 9, 41, "bbbb"), api.ErrBytes},
		{"V" + signed(5, 9, 3, "aaaA") + signed(5, 9, 3, "aaaB"), api.ErrBytes},
	} {
		checkConvicts(t, 1024, c.evidence, c.want)
		for _, key := range noKeys {
			checkConvicts(t, key, c.evidence, api.ErrKey)
			checkConvicts(t, key, "V"+one+two, api.ErrKey)
		}
	}
}

func TestP9ConvictsWrongLengths(t *testing.T) {
	// An s below 256, so that the last byte says nothing.
	one, two := signed(1018, 5, 40, "0000"), signed(1018, 1018, 40, "6bb0")
	whole := "V" + one + two
	checkConvicts(t, 510, whole, api.OK)
	for length := range len(whole) {
		checkConvicts(t, 510, whole[:length], api.ErrBytes)
	}
	for _, more := range []string{"\x00", "V", two, whole, strings.Repeat("V", 5000000)} {
		checkConvicts(t, 510, whole+more, api.ErrBytes)
		checkConvicts(t, 510, more+whole, api.ErrBytes)
	}
	checkConvicts(t, 510, one+two, api.ErrBytes)
	checkConvicts(t, 510, one, api.ErrBytes)
}

func TestP9ConvictsWithAnyChangedByte(t *testing.T) {
	for _, size := range []int{0, 3, 40} {
		whole := "V" + signed(5, 9, size, "aaaa") + signed(5, 10, size, "bbbb")
		for at := range len(whole) {
			for b := range 256 {
				changed := whole[:at] + string([]byte{byte(b)}) + whole[at+1:]
				checkConvicts(t, 1024, changed, wantConvicts(1024, changed))
			}
		}
	}
}

// s and Order more come to the same r, but are no signed head.
func TestP9ConvictsNumbersFromOrderOn(t *testing.T) {
	one, two := signed(5, 9, 3, "aaaa"), signed(5, 10, 3, "bbbb")
	more := func(text string) string { return text[:9] + inTwo(fromTwo(text[9:])+1019) }
	checkConvicts(t, 1024, "V"+one+two, api.OK)
	checkConvicts(t, 1024, "V"+more(one)+two, api.ErrBytes)
	checkConvicts(t, 1024, "V"+one+more(two), api.ErrBytes)
	checkEvidence(t, 1024, more(one), two, "", api.ErrBytes)
	checkEvidence(t, 1024, one, more(two), "", api.ErrBytes)
}
