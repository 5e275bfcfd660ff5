package seals

import (
	"testing"

	"treehead/api"
)

func TestPowerIsRepeatedMultiplication(t *testing.T) {
	for _, base := range []int{0, 1, 2, 4, 510, 1024, 2037, 2038} {
		want := 1
		for n := range 2100 {
			if got := power(base, n); got != want {
				t.Fatalf("power(%d, %d) = %d, want %d", base, n, got, want)
			}
			want = want * base % 2039
		}
	}
}

func TestIsSecret(t *testing.T) {
	for n := -1100; n <= 2100; n++ {
		if got, want := IsSecret(n), n >= 1 && n <= 1018; got != want {
			t.Errorf("IsSecret(%d) = %v", n, got)
		}
	}
}

func TestEveryKeyIsOneAndNothingElse(t *testing.T) {
	secretOf := make(map[int]int)
	for secret := 1; secret <= 1018; secret++ {
		secretOf[KeyOf(secret)] = secret
	}
	if len(secretOf) != 1018 {
		t.Errorf("there are %d keys", len(secretOf))
	}
	for n := -2100; n <= 4200; n++ {
		if got, want := IsKey(n), secretOf[n] != 0; got != want {
			t.Errorf("IsKey(%d) = %v", n, got)
		}
	}
}

func TestTwoHasTheLowestByteFirst(t *testing.T) {
	for n, want := range map[int]string{0: "\x00\x00", 1: "\x01\x00", 255: "\xff\x00", 256: "\x00\x01", 1018: "\xfa\x03", 2038: "\xf6\x07"} {
		if got := two(n); got != want {
			t.Errorf("two(%d) = %x, want %x", n, got, want)
		}
	}
	for n := range 65536 {
		if got := number(two(n)); got != n {
			t.Errorf("number(two(%d)) = %d", n, got)
		}
	}
}

func TestWhatIsWrittenIsRead(t *testing.T) {
	for size := range 41 {
		made := Sign(1+size, 1018-size, api.Head{Size: size, Root: "09af"})
		read, ok := Read(made.Text())
		if !ok || read != made || !read.Right(KeyOf(1+size)) {
			t.Errorf("Read of %x = %v, %v, want %v", made.Text(), read, ok, made)
		}
	}
}

func TestReadDoesNotAskForTheSignature(t *testing.T) {
	read, ok := Read("H\x03\x00c016\x00\x00\xfa\x03")
	if want := (Signed{api.Head{Size: 3, Root: "c016"}, 0, 1018}); !ok || read != want {
		t.Errorf("Read = %v, %v, want %v", read, ok, want)
	}
	if read.Right(4) {
		t.Error("a made-up signature is right")
	}
	if read, ok := Read("H\x29\x00c016\x00\x00\xfa\x03"); ok || read != (Signed{}) {
		t.Errorf("Read of 41 leaves = %v, %v", read, ok)
	}
}

func TestEvidenceIsReadInOrder(t *testing.T) {
	lesser, greater := Sign(5, 9, api.Head{Size: 3, Root: "9999"}), Sign(5, 10, api.Head{Size: 3, Root: "a000"})
	want := "V" + lesser.Text() + greater.Text()
	if Evidence(lesser, greater) != want || Evidence(greater, lesser) != want {
		t.Errorf("Evidence = %x and %x, want %x", Evidence(lesser, greater), Evidence(greater, lesser), want)
	}
	if one, other, ok := ReadEvidence(want); !ok || one != lesser || other != greater {
		t.Errorf("ReadEvidence = %v, %v, %v", one, other, ok)
	}
	if _, _, ok := ReadEvidence("V" + greater.Text() + lesser.Text()); ok {
		t.Error("evidence in the other order is read")
	}
}
