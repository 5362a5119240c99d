package evolve_test

import (
	"crypto/hmac"
	"crypto/sha256"
	"encoding/binary"

	"keepsake/api"
)

// What stands here are the words of the chapters 4 and 18 once more, by the library's HMAC and SHA-256.

const (
	lastEpoch = 1<<32 - 1
	mostOn    = 4096
)

// library is the library's tag.
func library(key, msg string) string {
	h := hmac.New(sha256.New, []byte(key))
	h.Write([]byte(msg))
	return string(h.Sum(nil))
}

// said is what is said of a purpose: its name behind its length in four bytes, a byte with how many numbers there are, each in eight.
func said(name string, numbers ...int) string {
	b := binary.BigEndian.AppendUint32(nil, uint32(len(name)))
	b = append(append(b, name...), byte(len(numbers)))
	for _, n := range numbers {
		b = binary.BigEndian.AppendUint64(b, uint64(n))
	}
	return string(b)
}

// message is what a key's bytes for a purpose are the tag of; data's is the first piece of a longer one.
func message(name string, numbers ...int) string {
	if name == "data" {
		return said(name) + "\x01"
	}
	return said(name, numbers...)
}

// want is what must be made of a key for a purpose that has no number.
func want(name, key string) (string, api.Errno) {
	if len(key) != 32 {
		return "", api.ErrArg
	}
	out := library(key, message(name))
	if name == "data" {
		out = out[:16]
	}
	return out, api.OK
}

func wantFirst(root string, first int) (string, api.Errno) {
	if len(root) != 32 || first < 0 || first > lastEpoch {
		return "", api.ErrArg
	}
	return library(root, message("seal", first)), api.OK
}

func wantAt(root string, first, epoch int) (string, api.Errno) {
	switch {
	case len(root) != 32:
		return "", api.ErrArg
	case first < 0, first > lastEpoch:
		return "", api.ErrArg
	case epoch < 0, epoch > lastEpoch:
		return "", api.ErrArg
	case epoch < first:
		return "", api.ErrArg
	case epoch > first+mostOn:
		return "", api.ErrLimit
	}
	key := library(root, message("seal", first))
	for at := first; at != epoch; at++ {
		key = library(key, message("next"))
	}
	return key, api.OK
}
