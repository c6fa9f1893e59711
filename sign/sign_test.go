package sign_test

import (
	"bytes"
	"crypto/sha256"
	"slices"
	"testing"

	"purser/api"
	"purser/sign"
)

func secrets() []api.Hash {
	return []api.Hash{{}, {1}, {31: 1}, {5, 6, 7, 31: 255}, sha256.Sum256([]byte("secret"))}
}

func digests() []api.Hash {
	return []api.Hash{{}, {9}, {31: 9}, sha256.Sum256([]byte("digest"))}
}

// P9.1
func TestPublicAndSign(t *testing.T) {
	for _, secret := range secrets() {
		if sign.Public(secret) != api.Hash(sha256.Sum256(secret[:])) {
			t.Error(secret)
		}
		for _, digest := range digests() {
			proof := sha256.Sum256(slices.Concat(secret[:], digest[:]))
			if got := sign.Sign(secret, digest); !bytes.Equal(got, slices.Concat(secret[:], proof[:])) {
				t.Error(secret, digest, got)
			}
		}
	}
}

// P9.2, P9.4
func TestIs(t *testing.T) {
	for i, secret := range secrets() {
		public := sign.Public(secret)
		for j, digest := range digests() {
			sig := sign.Sign(secret, digest)
			for k, other := range secrets() {
				for l, another := range digests() {
					key := sign.Public(other)
					if got := sign.Is(key[:], sig, another); got != (i == k && j == l) {
						t.Error(i, j, k, l, got)
					}
				}
			}
			for at := range sig {
				changed := slices.Clone(sig)
				changed[at] ^= 1 << (at % 8)
				if sign.Is(public[:], changed, digest) {
					t.Error("signature", at)
				}
			}
			for at := range public {
				changed := public
				changed[at] ^= 1 << (at % 8)
				if sign.Is(changed[:], sig, digest) {
					t.Error("key", at)
				}
			}
		}
	}
}

// P9.2
func TestLengths(t *testing.T) {
	secret, digest := api.Hash{1}, api.Hash{2}
	public, sig := sign.Public(secret), sign.Sign(secret, digest)
	longKey, longSig := append(public[:], 0), append(slices.Clone(sig), 0)
	for i, x := range []struct{ key, sig []byte }{{nil, nil}, {public[:], nil}, {nil, sig}, {public[:31], sig}, {public[:], sig[:63]}, {public[:], longSig}, {longKey, sig}, {public[:], sig[:32]}, {public[:], sig[32:]}, {public[:0], sig[:0]}} {
		if sign.Is(x.key, x.sig, digest) {
			t.Error(i)
		}
	}
	if !sign.Is(longKey[:32], longSig[:64], digest) {
		t.Error("cut out of longer ones")
	}
}

// P9.3
func TestApart(t *testing.T) {
	secret, digest := api.Hash{1}, api.Hash{2}
	public, sig := sign.Public(secret), sign.Sign(secret, digest)
	key := append(slices.Clone(public[:]), "behind"...)
	long := append(slices.Clone(sig), "behind"...)
	if !sign.Is(key[:32], long[:64], digest) || string(key[32:]) != "behind" || string(long[64:]) != "behind" {
		t.Error(key, long)
	}
	sig[0], sig[40] = 99, 99
	if !bytes.Equal(sign.Sign(secret, digest), long[:64]) || !bytes.Equal(key[:32], public[:]) {
		t.Error("shared")
	}
}
